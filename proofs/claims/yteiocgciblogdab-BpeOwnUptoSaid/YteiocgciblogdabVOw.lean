import Derived.Test.YteiocgciblogdabVOwS
import Derived.Test.YteiocgciblogdabVOwZ
import Derived.Test.YteiocgciblogdabVReo
import Derived.Test.YteiocgciblogdabVInt
import Derived.Test.YteiocgciblogdabVStl
import Derived.Test.YteiocgciblogdabVSpl
import Derived.Test.YteiocgciblogdabVLiv
import Derived.Deep.DeepCutAuto
import Derived.Lib.AppendZeros
import Derived.Sort.CutIn
namespace Go.Proofs.Yteiocgciblogdab
open Go.RowKit Go.Shelf
attribute [local go_sem] Oper.semAt_some map_add0
/-! BpeOwn. -/
/-- what lies in memory ahead of the book -/
structure OwF (w : World) (d : VD) (bo po ko xo yo : Option Addr) (cb cp n ck xc yc : Nat) (X : Nat → Int) (B0 B1 C8 : Nat) : Prop where
  hb : RdA w bo 1 d.nb cb (fun i => .int .u8 (d.B i))
  hp : RdA w po 2 d.np cp (tcs d.P d.Q)
  hk : RdA w ko 1 n ck (fun i => .int .u8 (X i))
  vb : RdA w xo 1 d.nb xc (fun i => .int .u8 (d.B i))
  vp : RdA w yo 2 d.np yc (tcs d.P d.Q)
  b0 : w.rowIs B0 25 2 (two (.slice bo d.nb cb) (.slice po d.np cp))
  b1 : w.rowIs B1 4 1 (fun _ => .bool false)
  c8 : w.rowIs C8 25 2 (two (.slice xo d.nb xc) (.slice yo d.np yc))
theorem OwF.fresh {w w' : World} {d : VD} {bo po ko xo yo : Option Addr} {cb cp n ck xc yc : Nat} {X : Nat → Int} {B0 B1 C8 : Nat} (h : OwF w d bo po ko xo yo cb cp n ck xc yc X B0 B1 C8) (f : Below w.heap.size w w') : OwF w' d bo po ko xo yo cb cp n ck xc yc X B0 B1 C8 :=
  ⟨h.hb.fresh f, h.hp.fresh f, h.hk.fresh f, h.vb.fresh f, h.vp.fresh f, h.b0.of_block (f.block _ h.b0.lt), h.b1.of_block (f.block _ h.b1.lt), h.c8.of_block (f.block _ h.c8.lt)⟩
set_option maxRecDepth 100000 in
set_option maxHeartbeats 8000000 in
theorem own_bad {w : World} {d : VD} {bo po ko : Option Addr} {cb cp n ck : Nat} {X : Nat → Int} (hb : RdA w bo 1 d.nb cb (fun i => .int .u8 (d.B i))) (hp : RdA w po 2 d.np cp (tcs d.P d.Q)) (hB : ∀ i, i < d.nb → 0 ≤ d.B i ∧ d.B i ≤ 255) (hk : RdA w ko 1 n ck (fun i => .int .u8 (X i))) (hX : ∀ i, i < n → 0 ≤ X i ∧ X i ≤ 255) (n1 : d.nb ≤ 140737488351232) (n2 : d.np ≤ 8796093021952) (hn : n ≤ 1048576) (x : Int) (hx : d.encOut X n x []) (hx0 : x ≠ 0) :
    Calls Try.prog 4 #[.agg #[.slice bo d.nb cb, .slice po d.np cp], .slice ko n ck] w fun e w' => e = .returned (.bool true) ∧ Below w.heap.size w w' := by
  have HX := hidd hx
  have HB := hidd hB
  have HXb := hidd hX
  have HW : Hid (∀ w : World, Calls Try.prog 12 #[] w fun e w' => e = .returned (.bool true) ∧ Below w.heap.size w w') := lives_any
  clear hx hB hX
  have hf0 := fresh_trans (fresh_alloc w (.cells #[.slice bo d.nb cb, .slice po d.np cp] 25)) (fresh_alloc _ (.cells #[.bool false] 4))
  have r0 := (row2_new w 25 (.slice bo d.nb cb) (.slice po d.np cp)).alloc (.cells #[.bool false] 4)
  have r1 := row1_new (w.alloc (.cells #[.slice bo d.nb cb, .slice po d.np cp] 25)) 4 (.bool false)
  refine (callsIn_wide (n := 3)).1 ?_
  refine callsIn_of_wp_marks Try.func4 rfl trivial ?_ rfl
  refine wpIn_wide.2 ?_
  simp only [Try.ntmps4, List.size_toArray, List.length_cons, List.length_nil, Nat.reduceAdd, Nat.reduceSub, Array.replicate_succ, Array.replicate_zero, List.push_toArray, List.append_toArray, List.nil_append, List.cons_append]
  simp only [World.size_alloc] at r1
  go_upto_region 2 with (go_at_call 12; with_reducible refine (HW.out _).mono ?_; rintro e w1 ⟨rfl, hb1⟩)
  have hF1 := fresh_trans hf0 hb1
  have q0 := r0.of_block (hb1.block _ r0.lt)
  have q1 := r1.of_block (hb1.block _ r1.lt)
  obtain ⟨y0, y1⟩ := row2 q0
  have HCV := hidd (copyV_any (hb.fresh hF1) (hp.fresh hF1) n1 n2)
  clear r0 r1 hf0 hb1 HW
  go_upto_region 3 with (first
    | (go_at_call 13; (with_reducible refine HCV.out.mono ?_); rintro e w2 ⟨v, u, rfl, hov, hou, _, hb2⟩; have HCB := hidd (copyB_any ((hk.fresh hF1).fresh hb2) (by omega)); obtain ⟨va, vc, rfl, rv⟩ := hov.rd; obtain ⟨ua, uc, rfl, ru⟩ := hou.rd)
    | (go_at_call 6; (with_reducible refine HCB.out.mono ?_); rintro e w3 ⟨t, rfl, hot, hb3⟩; obtain ⟨ta, tc, rfl, rt⟩ := hot.rd; have HPE := hidd (penc_any (rv.fresh hb3) (ru.fresh hb3) HB.out rt HXb.out hn x [] HX.out))
    | (go_at_call 7; (with_reducible refine HPE.out.mono ?_); rintro e w4 ⟨v4, rfl, _, hb4⟩))
  have hF3 := fresh_trans hF1 (fresh_trans hb2 hb3)
  have s1 := q1.of_block ((fresh_trans hb2 hb3).block _ q1.lt)
  clear hov hou hot rv ru rt hb2 hb3 HCV HCB q0 q1 y0 y1 hF1
  have z1 := s1.of_block (hb4.block _ s1.lt)
  obtain ⟨c1, f1⟩ := row1 z1
  have hF4 := fresh_trans hF3 hb4
  have tx : (x != 0) = true := by simpa using hx0
  have hlt := z1.lt
  clear HPE s1 hb4 hF3
  go_wp2
  refine ⟨.bool true, results_bool (fn := Try.f4) rfl _ _ (w.heap.size + 1) true rfl ((row1_set z1 (.bool true)).cell (i := 0) (by decide)), rfl, hF4.setCell (p := ⟨w.heap.size + 1, 0, none⟩) (by dsimp only; omega) _⟩
set_option maxRecDepth 100000 in
set_option maxHeartbeats 16000000 in
theorem own_ok {w : World} {d : VD} {bo po ko : Option Addr} {cb cp n ck : Nat} {X : Nat → Int} (hb : RdA w bo 1 d.nb cb (fun i => .int .u8 (d.B i))) (hp : RdA w po 2 d.np cp (tcs d.P d.Q)) (hB : ∀ i, i < d.nb → 0 ≤ d.B i ∧ d.B i ≤ 255) (hk : RdA w ko 1 n ck (fun i => .int .u8 (X i))) (hX : ∀ i, i < n → 0 ≤ X i ∧ X i ≤ 255) (n1 : d.nb ≤ 140737488351232) (n2 : d.np ≤ 8796093021952) (hn : n ≤ 1048576) (hR : d.Right) (ht : ∀ i, i < n → d.tok (X i) ≠ 0) :
    Calls Try.prog 4 #[.agg #[.slice bo d.nb cb, .slice po d.np cp], .slice ko n ck] w fun e w' => e = .returned (.bool true) ∧ Below w.heap.size w w' := by
  obtain ⟨l, HL⟩ : ∃ l, Hid (l = d.encL (d.first X n) d.np) := ⟨_, rfl⟩
  have HX : Hid (d.encOut X n 0 l) := .inr (.inr ⟨hR, ht, rfl, HL.out⟩)
  have hln : l.length ≤ 1048576 := by
    rw [HL.out]
    exact Nat.le_trans (d.encL_len _ _) (by rw [d.first_len]; exact hn)
  have HB := hidd hB
  have HXb := hidd hX
  have HRT := hidd hR
  have HTK := hidd ht
  have HW : Hid (∀ w : World, Calls Try.prog 12 #[] w fun e w' => e = .returned (.bool true) ∧ Below w.heap.size w w') := lives_any
  clear hB hX ht hR
  have hf0 := fresh_trans (fresh_alloc w (.cells #[.slice bo d.nb cb, .slice po d.np cp] 25)) (fresh_alloc _ (.cells #[.bool false] 4))
  have r0 := (row2_new w 25 (.slice bo d.nb cb) (.slice po d.np cp)).alloc (.cells #[.bool false] 4)
  have r1 := row1_new (w.alloc (.cells #[.slice bo d.nb cb, .slice po d.np cp] 25)) 4 (.bool false)
  refine (callsIn_wide (n := 3)).1 ?_
  refine callsIn_of_wp_marks Try.func4 rfl trivial ?_ rfl
  refine wpIn_wide.2 ?_
  refine Code.wp_mono (calmM_le _) ?_
  simp only [Try.ntmps4, List.size_toArray, List.length_cons, List.length_nil, Nat.reduceAdd, Nat.reduceSub, Array.replicate_succ, Array.replicate_zero, List.push_toArray, List.append_toArray, List.nil_append, List.cons_append]
  simp only [World.size_alloc] at r1
  go_upto_region 2 with (go_at_call 12; with_reducible refine (HW.out _).mono ?_; rintro e w1 ⟨rfl, hb1⟩)
  have hF1 := fresh_trans hf0 hb1
  have q0 := r0.of_block (hb1.block _ r0.lt)
  have q1 := r1.of_block (hb1.block _ r1.lt)
  obtain ⟨y0, y1⟩ := row2 q0
  have HCV := hidd (copyV_any (hb.fresh hF1) (hp.fresh hF1) n1 n2)
  clear r0 r1 hf0 hb1 HW
  go_upto_region 3 with (first
    | (go_at_call 13; (with_reducible refine HCV.out.mono ?_); rintro e w2 ⟨v, u, rfl, hov, hou, _, hb2⟩; have HCB := hidd (copyB_any ((hk.fresh hF1).fresh hb2) (by omega)); obtain ⟨va, vc, rfl, rv⟩ := hov.rd; obtain ⟨ua, uc, rfl, ru⟩ := hou.rd)
    | (go_at_call 6; (with_reducible refine HCB.out.mono ?_); rintro e w3 ⟨t, rfl, hot, hb3⟩; obtain ⟨ta, tc, rfl, rt⟩ := hot.rd; have HPE := hidd (penc_any (rv.fresh hb3) (ru.fresh hb3) HB.out rt HXb.out hn 0 l HX.out))
    | (go_at_call 7; (with_reducible refine HPE.out.mono ?_); rintro e w4 ⟨v4, rfl, hol, hb4⟩))
  have hF3 := fresh_trans hF1 (fresh_trans hb2 hb3)
  have s0 := q0.of_block ((fresh_trans hb2 hb3).block _ q0.lt)
  have s1 := q1.of_block ((fresh_trans hb2 hb3).block _ q1.lt)
  clear hov hou hot rv ru rt hb2 hb3 HCV HCB q0 q1 y0 y1 hF1
  obtain ⟨la, lc, rfl, rl⟩ := OwnI.get hol
  have t0 := s0.of_block (hb4.block _ s0.lt)
  have t1 := s1.of_block (hb4.block _ s1.lt)
  have hF4 := fresh_trans hF3 hb4
  clear HPE s0 s1 hb4 hF3 hol
  go_upto_region 5 with fail
  -- c
  obtain ⟨y0, y1⟩ := row2 t0
  have HCV := hidd (copyV_any (hb.fresh hF4) (hp.fresh hF4) n1 n2)
  go_upto_region 6 with (go_at_call 13; (with_reducible refine HCV.out.mono ?_); rintro e w5 ⟨v5, u5, rfl, hov, hou, _, hb5⟩; obtain ⟨xo, xc, rfl, rv⟩ := hov.rd; obtain ⟨yo, yc, rfl, ru⟩ := hou.rd)
  have f5 := fresh_alloc w5 (.cells #[.slice xo d.nb xc, .slice yo d.np yc] 25)
  have HA0 : Hid (OwF (w5.alloc (.cells #[.slice xo d.nb xc, .slice yo d.np yc] 25)) d bo po ko xo yo cb cp n ck xc yc X w.heap.size (w.heap.size + 1) w5.heap.size) := ⟨((hb.fresh hF4).fresh hb5).fresh f5, ((hp.fresh hF4).fresh hb5).fresh f5, ((hk.fresh hF4).fresh hb5).fresh f5, rv.fresh f5, ru.fresh f5, (t0.of_block (hb5.block _ t0.lt)).of_block (f5.block _ ((t0.of_block (hb5.block _ t0.lt)).lt)), (t1.of_block (hb5.block _ t1.lt)).of_block (f5.block _ ((t1.of_block (hb5.block _ t1.lt)).lt)), row2_new w5 25 _ _⟩
  have HFA0 := hidd (fresh_trans hF4 (fresh_trans hb5 f5))
  have HLA0 := hidd ((rl.fresh hb5).fresh f5)
  have hsA : w5.heap.size < (w5.alloc (.cells #[.slice xo d.nb xc, .slice yo d.np yc] 25)).heap.size := by simp
  obtain ⟨wA, HWA⟩ : ∃ x, Hid (x = w5.alloc (.cells #[.slice xo d.nb xc, .slice yo d.np yc] 25)) := ⟨_, rfl⟩
  rw [← HWA.out] at HA0 HFA0 HLA0 hsA ⊢
  have h50 := t1.lt
  obtain ⟨C8, HC8⟩ : ∃ s, Hid (s = w5.heap.size) := ⟨_, rfl⟩
  rw [← HC8.out] at HA0 hsA ⊢
  obtain ⟨B1, HB1⟩ : ∃ s, Hid (s = w.heap.size + 1) := ⟨_, rfl⟩
  rw [← HB1.out] at HA0 h50 ⊢
  obtain ⟨B0, HB0⟩ : ∃ s, Hid (s = w.heap.size) := ⟨_, rfl⟩
  have hb01 : w.heap.size ≤ B0 ∧ B0 < B1 ∧ w.heap.size < B1 := by have := HB0.out; have := HB1.out; omega
  rw [← HB0.out] at HA0 ⊢
  clear hov hou rv ru rl HCV y0 y1 t0 t1 hb5 f5 hF4 HWA HC8 HB1 HB0
  obtain ⟨g, HG⟩ : ∃ s, Hid (s = wA.heap.size) := ⟨_, rfl⟩
  go_upto_region 7 with fail
  have f6 := fresh_trans (fresh_alloc wA (.cells #[.slice none 0 0, .slice none 0 0, .slice none 0 0] 40)) (fresh_alloc _ (.cells #[.pointer (some ⟨wA.heap.size, 0, none⟩)] 37))
  have rB := (World.rowIs_alloc wA #[.slice none 0 0, .slice none 0 0, .slice none 0 0] 40 (three (.slice none 0 0) (.slice none 0 0) (.slice none 0 0)) (fun i hi => by
    have hi : i < 3 := hi
    obtain rfl | rfl | rfl : i = 0 ∨ i = 1 ∨ i = 2 := by omega
    all_goals rfl)).alloc (.cells #[.pointer (some ⟨wA.heap.size, 0, none⟩)] 37)
  have r9 := row1_new (wA.alloc (.cells #[.slice none 0 0, .slice none 0 0, .slice none 0 0] 40)) 37 (.pointer (some ⟨wA.heap.size, 0, none⟩))
  simp only [World.size_alloc] at r9
  have hs6 : ((wA.alloc (.cells #[.slice none 0 0, .slice none 0 0, .slice none 0 0] 40)).alloc (.cells #[.pointer (some ⟨wA.heap.size, 0, none⟩)] 37)).heap.size = wA.heap.size + 2 := by simp
  obtain ⟨w6, HW6⟩ : ∃ x, Hid (x = (wA.alloc (.cells #[.slice none 0 0, .slice none 0 0, .slice none 0 0] 40)).alloc (.cells #[.pointer (some ⟨wA.heap.size, 0, none⟩)] 37)) := ⟨_, rfl⟩
  rw [← HW6.out] at f6 rB r9 hs6 ⊢
  obtain ⟨C9, HC9⟩ : ∃ s, Hid (s = wA.heap.size + 1) := ⟨_, rfl⟩
  rw [← HC9.out] at r9 ⊢
  have hg6 : wA.heap.size ≤ g ∧ g < C9 ∧ C9 < w6.heap.size := by have := HG.out; have := HC9.out; omega
  rw [← HG.out] at rB r9 ⊢
  have F6 := HA0.out.fresh f6
  obtain ⟨y0, y1⟩ := row2 F6.c8
  have HAL := hidd (all_any F6.vb F6.vp)
  have HR9 := hidd r9
  have HRB := hidd rB
  have HF6 := hidd f6
  clear f6 rB r9 hs6 HW6 HC9 HG F6
  obtain ⟨N, HN⟩ : ∃ N, Hid (N = d.nb + 1 + d.np) := ⟨_, rfl⟩
  have hN64 : 0 < N ∧ N ≤ 64 := by
    obtain ⟨z1, z2, z3⟩ := HRT.out.cnt
    have := HN.out
    omega
  rw [← HN.out] at HAL
  go_upto_region 8 with (go_at_call 14; (with_reducible refine HAL.out.mono ?_); rintro e w7 ⟨Ba, rfl, hAll, hBa, hf7⟩)
  obtain ⟨vT, AT, hT, hcB⟩ : ∃ v A, TabAt w7 w6.heap.size d v N A ∧ w7.cell? ⟨Ba, 0, none⟩ = some v := by
    rcases hAll with ⟨_, v, A, hT, hc⟩ | ⟨h, _⟩
    · exact ⟨v, A, hT, hc⟩
    · exact absurd HRT.out h
  have HIT := hidd (all_hands_new (n₁ := w7.heap.size) hN64.1 hN64.2 (fun t ht => HRT.out.len_all t (by rw [← HN.out]; exact ht)) hT rfl hcB)
  have h67 := hf7.size
  have HL7 := hidd (HF6.out.trans (hf7.mono HF6.out.size))
  obtain ⟨pt, HPT⟩ : ∃ p, Hid (p = d.dec (fun i => l.getD i 0) (l.length / 2)) := ⟨_, rfl⟩
  obtain ⟨ls, HLS⟩ : ∃ f, Hid (f = lsF d N ((List.range n).map X) ((List.range n).map X) pt) := ⟨_, rfl⟩
  have HS7 : Hid (Stg wA w7 w7.heap.size g C9 0 (.slice none 0 0) (.slice none 0 0) (fun _ => .slice none 0 0) (fun _ => .slice none 0 0) ls) := Stg.start HL7.out (HR9.out.of_block (hf7.block _ HR9.out.lt)) (HRB.out.of_block (hf7.block _ HRB.out.lt)) hg6.1 (by omega) (by omega) (by omega) (Nat.le_refl _) (by have := HF6.out.size; omega) _ _
  have HZA : Hid (wA.heap.size ≤ w6.heap.size) := HF6.out.size
  have hq := eqNilF (.func 30) #[] #[.pointer (some ⟨Ba, 0, none⟩)]
  clear hAll hBa hf7 hT hcB HAL y0 y1 HR9 HRB HF6 HL7
  go_wp2
  refine (wpIn_wide (n := 3)).1 ?_
  refine range_handsN (gf := 30) (lb := #[.pointer (some ⟨Ba, 0, none⟩)]) rfl (enters_of Try.func30 (by kernel_rfl) rfl) HIT.out KpS.trans (fun V lY o o' hl hV hc => ⟨by simp, fun b h1 h2 => put_other _ (by omega)⟩)
    (fun k args W0 V h => by obtain ⟨u, rfl, _⟩ := h; rfl) (fun k args W0 V lY o o' hl h0 hV hc h => by obtain ⟨u, e, hP⟩ := h; exact ⟨u, e, by have h2 := own_put (o' := o') hV hc hP; have e3 : (W0.putObj lY o').heap.size = W0.heap.size := (by simp); rw [e3]; exact h2⟩)
    (fun k W => ∃ vL vZ A Z, Stg wA W w7.heap.size g C9 (4 * k) vL vZ A Z ls)
    (fun id k W => False)
    ?bears ?puts ?putsx ⟨_, _, _, _, HS7.out⟩
    (fun args => { tmps := #[Value.agg #[Value.slice bo d.nb cb, Value.slice po d.np cp], Value.slice ko n ck, Value.pointer (some { block := B0, off := 0 }), undef, Value.pointer (some { block := B1, off := 0 }), Value.bool true, Value.slice la l.length lc, Value.int IntKind.i64 0, Value.pointer (some { block := C8, off := 0 }), Value.pointer (some { block := C9, off := 0 }), Value.func (Fn.func 30) #[] #[Value.pointer (some { block := Ba, off := 0 })], args.getD 0 undef, args.getD 1 undef, undef, undef, undef, undef, undef, undef, undef, undef, undef, undef, undef, undef, undef, undef, undef, undef, undef, undef, undef, undef, undef, undef, undef, undef, undef, undef, undef, undef, undef, undef, undef, undef, Value.bool true, Value.tuple #[Value.slice la l.length lc, Value.int IntKind.i64 0], Value.agg #[Value.slice bo d.nb cb, Value.slice po d.np cp], Value.agg #[Value.slice va d.nb vc, Value.slice ua d.np uc], Value.slice ko n ck, Value.slice ta n tc, Value.tuple #[Value.slice la l.length lc, Value.int IntKind.i64 0], Value.slice la l.length lc, Value.int IntKind.i64 0, Value.bool true, Value.bool false, Value.bool false, Value.int IntKind.i64 0, Value.bool false, Value.bool false, undef, Value.agg #[Value.slice bo d.nb cb, Value.slice po d.np cp], Value.agg #[Value.slice xo d.nb xc, Value.slice yo d.np yc], Value.agg #[Value.slice none 0 0, Value.slice none 0 0, Value.slice none 0 0], Value.pointer (some { block := g, off := 0 }), Value.agg #[Value.slice xo d.nb xc, Value.slice yo d.np yc], Value.func (Fn.func 30) #[] #[Value.pointer (some { block := Ba, off := 0 })], Value.func (Fn.func 30) #[] #[Value.pointer (some { block := Ba, off := 0 })], Value.bool false, Value.func (Fn.func 30) #[] #[Value.pointer (some { block := Ba, off := 0 })], args.getD 0 undef, args.getD 1 undef, undef, undef, undef, undef, undef, undef, undef, undef, undef, undef, undef, undef, undef, undef, undef, undef, undef, undef, undef, undef, undef, undef, undef, undef, undef, undef, undef, undef, undef, undef, undef, undef, undef, undef, undef, undef, undef, undef, undef, undef, undef, undef, undef, undef, undef, undef, undef, undef, undef, undef, undef, undef, undef, undef, undef, undef, undef, undef, undef, undef, undef, undef, undef, undef, undef, undef, undef, undef, undef, undef, undef, undef, undef, undef, undef, undef, undef, undef, undef, undef, undef, undef, undef, undef, undef, undef, undef, undef, undef, undef, undef, undef, undef, undef, undef, undef, undef, undef, undef, undef, undef, undef, undef, undef, undef, undef, undef, undef, undef, undef, undef, undef, undef, undef, undef, undef, undef, undef, undef, undef, undef, undef, undef, undef, undef, undef, undef, undef, undef, undef, undef, undef, undef, undef, undef, undef, undef, undef, undef, undef, undef, undef, undef, undef, undef, undef, undef, undef, undef, undef, undef, undef, undef, undef, undef, undef, undef, undef, undef, undef, undef, undef, undef, undef, undef, undef, undef, undef, undef, undef, undef, undef, undef, undef, undef, undef, undef, undef, undef, undef, undef, undef, undef, undef, undef, undef, undef, undef, undef, undef, undef, undef, undef, undef, undef, undef, undef, undef, undef, undef, undef, undef, undef, undef, undef, undef, undef, undef, undef, undef, undef, undef, undef, undef, undef, undef, undef, undef, undef, undef, undef, undef, undef], defers := [] }) ?assign ?body ?done ?stop
  case bears =>
    rintro k V V' ⟨vL, vZ, A, Z, h⟩ f
    exact ⟨vL, vZ, A, Z, h.fresh f⟩
  case puts =>
    rintro k V lY o o' hl hV hc ⟨vL, vZ, A, Z, h⟩
    exact ⟨vL, vZ, A, Z, h.put hl hV hc⟩
  case putsx =>
    rintro id k V lY o o' hl hV hc h
    exact h.elim
  case assign =>
    rintro lY k args W0 V K ⟨u, rfl, hP⟩ hK
    gi_wp2
    exact hK
  case stop =>
    rintro D id k V hD hk h hK
    exact h.elim
  case body =>
    rintro lY k args W0 V hk ⟨vL, vZ, A, Z, h0⟩ hWV ⟨u, rfl, hu⟩
    simp only [show (#[Value.int .i64 (k : Int), u] : Array Value).getD 0 undef = .int .i64 (k : Int) from rfl, show (#[Value.int .i64 (k : Int), u] : Array Value).getD 1 undef = u from rfl]
    have HGD : Hid (∀ k, k < N → d.decOut (fun _ => (k : Int)) 1 0 (d.pc k)) := fun k hk => .inr (.inr ⟨HRT.out, fun i _ => ⟨by show (0 : Int) ≤ (k : Int); omega, by show (k : Int) < _; have := HN.out; omega⟩, rfl, by simp [VD.dec]⟩)
    have HGD0 := hidd (show d.decOut (fun _ => (0 : Int)) 1 0 (d.pc 0) from by have := HGD.out 0 (by omega); simpa using this)
    have hbb : w7.heap.size ≤ V.heap.size := Nat.le_trans h0.hb hWV.size
    have PU0 := h0.new hu
    have S0 := h0.fresh hWV
    clear hu h0

    have FK0 := HA0.out.fresh S0.low
    have hcu0 := row2 FK0.c8
    have cy0 := hcu0.1
    have cy1 := hcu0.2
    have HBY := hidd (pbytes_any FK0.vb FK0.vp (k : Int) 0 (d.pc k) (HGD.out k hk))
    clear FK0 hcu0
    gi_upto_region 14 with (refine ⟨trivial, ?_⟩; gi_at_call 15; refine (CallsIn.inRound lY (callsIn_wide.2 HBY.out)).mono ?_; rintro e V1 ⟨v0, rfl, hv0, f0⟩)
    have P0 := S0.new hv0
    have S1 := S0.fresh f0
    have PU1 := PU0.fresh f0
    have o01 : Off u v0 := off_own PU0.own hv0
    have K1 : KeepsOthers V V1 ∧ KpS w6.heap.size w7.heap.size V V1 := ⟨KeepsOthers.of_below f0, KpS.of_fresh f0 hbb⟩
    have hbb1 : w7.heap.size ≤ V1.heap.size := Nat.le_trans hbb f0.size
    clear PU0 HBY cy0 cy1 S0 f0 hv0

    have FK1 := HA0.out.fresh S1.low
    have hcu1 := row2 FK1.c8
    have cy0 := hcu1.1
    have cy1 := hcu1.2
    have HBY := hidd (pbytes_any FK1.vb FK1.vp (k : Int) 0 (d.pc k) (HGD.out k hk))
    clear FK1 hcu1
    gi_upto_region 15 with (refine ⟨trivial, ?_⟩; gi_at_call 15; refine (CallsIn.inRound lY (callsIn_wide.2 HBY.out)).mono ?_; rintro e V2 ⟨v1, rfl, hv1, f1⟩)
    have P1 := S1.new hv1
    have S2 := S1.fresh f1
    have PU2 := PU1.fresh f1
    have P0b := P0.fresh f1
    have o02 : Off u v1 := off_own PU1.own hv1
    have o12 : Off v0 v1 := off_own P0.own hv1
    have K2 : KeepsOthers V V2 ∧ KpS w6.heap.size w7.heap.size V V2 := ⟨K1.1.trans (KeepsOthers.of_below f1), K1.2.trans (KpS.of_fresh f1 hbb1)⟩
    have hbb2 : w7.heap.size ≤ V2.heap.size := Nat.le_trans hbb1 f1.size
    clear PU1 P0 HBY cy0 cy1 S1 f1 hv1 K1 hbb1

    have FK2 := HA0.out.fresh S2.low
    have hcu2 := row2 FK2.c8
    have cy0 := hcu2.1
    have cy1 := hcu2.2
    have HBY := hidd (pbytes_any FK2.vb FK2.vp 0 0 (d.pc 0) HGD0.out)
    clear FK2 hcu2
    gi_upto_region 16 with (refine ⟨trivial, ?_⟩; gi_at_call 15; refine (CallsIn.inRound lY (callsIn_wide.2 HBY.out)).mono ?_; rintro e V3 ⟨v2, rfl, hv2, f2⟩)
    have P2 := S2.new hv2
    have S3 := S2.fresh f2
    have PU3 := PU2.fresh f2
    have P0c := P0b.fresh f2
    have P1c := P1.fresh f2
    have o03 : Off u v2 := off_own PU2.own hv2
    have o13 : Off v0 v2 := off_own P0b.own hv2
    have o23 : Off v1 v2 := off_own P1.own hv2
    have K3 : KeepsOthers V V3 ∧ KpS w6.heap.size w7.heap.size V V3 := ⟨K2.1.trans (KeepsOthers.of_below f2), K2.2.trans (KpS.of_fresh f2 hbb2)⟩
    clear PU2 P0b P1 HBY cy0 cy1 S2 f2 hv2 K2 hbb2
    obtain ⟨z1, z2, z3⟩ := HRT.out.cnt
    have hl16 := HRT.out.len_all k (by have := HN.out; omega)
    have hl0 : (d.pc 0).length ≤ 16 := HRT.out.len_all 0 (by omega)
    have lk0 : ls (4 * k) = d.pc k := by rw [HLS.out]; exact lsF_0 hk
    have lk1 : ls (4 * k + 1) = d.pc k := by rw [HLS.out]; exact lsF_1 hk
    have lk2 : ls (4 * k + 1 + 1) = d.pc k := by rw [HLS.out]; exact lsF_2 hk
    have lk3 : ls (4 * k + 1 + 1 + 1) = d.pc 0 := by rw [HLS.out]; exact lsF_3 hk
    have HLK := hidd (And.intro lk0 (And.intro lk1 (And.intro lk2 lk3)))
    have HOF := hidd (And.intro o01 (And.intro o02 (And.intro o03 (And.intro o12 (And.intro o13 o23)))))
    have HK := hidd K3
    have HPU := hidd PU3
    have HP0 := hidd P0c
    have HP1 := hidd P1c
    have HP2 := hidd P2
    have c9 := (row1 S3.c9).1
    have HS := hidd S3
    have hm : 4 * k + 4 ≤ 1000 := by omega
    clear lk0 lk1 lk2 lk3 o01 o02 o03 o12 o13 o23 K3 PU3 P0c P1c P2 S3 z1 z2 z3

    have HNT := hidd (note_st HS.out (by rw [HLK.out.1]; exact HPU.out) (by omega) (by rw [HLK.out.1]; omega))
    gi_upto_region 19 with (refine ⟨trivial, ?_⟩; gi_at_call 16; refine (CallsIn.inRound lY (callsIn_wide.2 HNT.out)).mono ?_; rintro e V4 ⟨rfl, vL0, vZ0, A0, Z0, hs0, hp0, hc0⟩)
    have hk0 := HS.out.nk hc0 (bT := w6.heap.size) (by omega)
    have HK4 := hidd (And.intro (HK.out.1.trans hk0.1) (HK.out.2.trans hk0.2))
    have HP0b := hidd (hp0 _ _ HP0.out HOF.out.1)
    have HP1b := hidd (hp0 _ _ HP1.out HOF.out.2.1)
    have HP2b := hidd (hp0 _ _ HP2.out HOF.out.2.2.1)
    have HS4 := hidd hs0
    have c94 := (row1 hs0.c9).1
    clear HNT hk0 hs0 hp0 hc0 HS HP0 HP1 HP2 HPU HK c9

    have HNT := hidd (note_st HS4.out (by rw [HLK.out.2.1]; exact HP0b.out) (by omega) (by rw [HLK.out.2.1]; omega))
    gi_upto_region 20 with (refine ⟨trivial, ?_⟩; gi_at_call 16; refine (CallsIn.inRound lY (callsIn_wide.2 HNT.out)).mono ?_; rintro e V5 ⟨rfl, vL1, vZ1, A1, Z1, hs1, hp1, hc1⟩)
    have hk1 := HS4.out.nk hc1 (bT := w6.heap.size) (by omega)
    have HK5 := hidd (And.intro (HK4.out.1.trans hk1.1) (HK4.out.2.trans hk1.2))
    have HP1d := hidd (hp1 _ _ HP1b.out HOF.out.2.2.2.1)
    have HP2d := hidd (hp1 _ _ HP2b.out HOF.out.2.2.2.2.1)
    have HS5 := hidd hs1
    have c95 := (row1 hs1.c9).1
    clear HNT hk1 hs1 hp1 hc1 HS4 HP0b HP1b HP2b HK4 c94

    have HNT := hidd (note_st HS5.out (by rw [HLK.out.2.2.1]; exact HP1d.out) (by omega) (by rw [HLK.out.2.2.1]; omega))
    gi_upto_region 21 with (refine ⟨trivial, ?_⟩; gi_at_call 16; refine (CallsIn.inRound lY (callsIn_wide.2 HNT.out)).mono ?_; rintro e V6 ⟨rfl, vL2, vZ2, A2, Z2, hs2, hp2, hc2⟩)
    have hk2 := HS5.out.nk hc2 (bT := w6.heap.size) (by omega)
    have HK6 := hidd (And.intro (HK5.out.1.trans hk2.1) (HK5.out.2.trans hk2.2))
    have HP2e := hidd (hp2 _ _ HP2d.out HOF.out.2.2.2.2.2)
    have HS6 := hidd hs2
    have c96 := (row1 hs2.c9).1
    clear HNT hk2 hs2 hp2 hc2 HS5 HP1d HP2d HK5 c95

    have HNT := hidd (note_st HS6.out (by rw [HLK.out.2.2.2]; exact HP2e.out) (by omega) (by rw [HLK.out.2.2.2]; omega))
    gi_wp2_with (refine ⟨trivial, ?_⟩; gi_at_call 16; refine (CallsIn.inRound lY (callsIn_wide.2 HNT.out)).mono ?_; rintro e V7 ⟨rfl, vL3, vZ3, A3, Z3, hs3, hp3, hc3⟩)
    have hk3 := HS6.out.nk hc3 (bT := w6.heap.size) (by omega)
    have HK7 := And.intro (HK6.out.1.trans hk3.1) (HK6.out.2.trans hk3.2)
    have e4 : 4 * k + 1 + 1 + 1 + 1 = 4 * (k + 1) := by omega
    rw [e4] at hs3
    exact ⟨HK7.1, HK7.2, _, _, _, _, hs3⟩
  case done =>
    rintro D V hD ⟨vL, vZ, A, Z, h0⟩ hV
    have HS0 := hidd h0
    have HD0 := hidd hV
    have hnX : ((List.range n).map X).length = n := by simp
    obtain ⟨tx, HTXE⟩ : ∃ t, Hid (t = (List.range n).map X) := ⟨_, rfl⟩
    rw [← HTXE.out] at HLS hnX
    have HTX : Hid (d.decOut (fun i => l.getD i 0) l.length 0 tx) := by
      have h := d.enc_dec HRT.out HXb.out HTK.out
      rw [← HL.out, ← HTXE.out] at h
      exact h
    have HTP : Hid (d.decOut (fun i => l.getD i 0) (l.length / 2) 0 pt) := by
      rcases HTX.out with ⟨h, _⟩ | ⟨_, _, h, _⟩ | ⟨_, hg, _, _⟩
      · exact absurd HRT.out h
      · omega
      · exact .inr (.inr ⟨HRT.out, fun i hi => hg i (by omega), rfl, HPT.out⟩)
    have hpl : pt.length ≤ 16 * 1048576 := by
      rcases HTX.out with ⟨h, _⟩ | ⟨_, _, h, _⟩ | ⟨_, hg, _, _⟩
      · exact absurd HRT.out h
      · omega
      · rw [HPT.out]; exact Nat.le_trans (VD.dec_len HRT.out _ (fun i hi => hg i (by omega))) (by omega)
    have HLX : Hid (ls (4 * N) = tx) := by show _ = _; rw [HLS.out]; exact lsF_x
    have HLY : Hid (ls (4 * N + 1) = tx) := by show _ = _; rw [HLS.out]; exact lsF_y
    have HLZ : Hid (ls (4 * N + 1 + 1) = pt) := by show _ = _; rw [HLS.out]; exact lsF_z
    clear h0 hV
    have FK := HA0.out.fresh HS0.out.low
    obtain ⟨cy0, cy1⟩ := row2 FK.c8
    have HDC := hidd (pdec_any FK.vb FK.vp (HLA0.out.fresh HS0.out.low) (by omega) 0 tx HTX.out)
    clear FK
    go_upto_region 23 with (go_at_call 17; (with_reducible refine HDC.out.mono ?_); rintro e V1 ⟨va1, rfl, hva1, fV1⟩)
    have HP1 := hidd (HS0.out.new hva1)
    have HS1 := hidd (HS0.out.fresh fV1)
    have HD1 := hidd ((KeepsOthers.of_below fV1).same D _ HD0.out rfl)
    clear HDC cy0 cy1 hva1 fV1 HS0 HD0
    have c9 := (row1 HS1.out.c9).1
    have HNT := hidd (note_st HS1.out (by rw [HLX.out]; exact HP1.out) (by omega) (by rw [HLX.out]; omega))
    go_upto_region 24 with (go_at_call 16; (with_reducible refine HNT.out.mono ?_); rintro e V2 ⟨rfl, vL2, vZ2, A2, Z2, hs2, _, hc2⟩)
    have HS2 := hidd hs2
    have HD2 := hidd ((HS1.out.nk hc2 (bT := w6.heap.size) (by omega)).1.same D _ HD1.out rfl)
    clear c9 HNT hs2 hc2 HP1 HS1 HD1
    have FK := HA0.out.fresh HS2.out.low
    obtain ⟨cy0, cy1⟩ := row2 FK.c8
    have HDC := hidd (pdec_any FK.vb FK.vp (HLA0.out.fresh HS2.out.low) (by omega) 0 tx HTX.out)
    clear FK
    go_upto_region 25 with (go_at_call 17; (with_reducible refine HDC.out.mono ?_); rintro e V3 ⟨va2, rfl, hva2, fV3⟩)
    have HP3 := hidd (HS2.out.new hva2)
    have HS3 := hidd (HS2.out.fresh fV3)
    have HD3 := hidd ((KeepsOthers.of_below fV3).same D _ HD2.out rfl)
    clear HDC cy0 cy1 hva2 fV3 HS2 HD2
    have c9 := (row1 HS3.out.c9).1
    have HNT := hidd (note_st HS3.out (by rw [HLY.out]; exact HP3.out) (by omega) (by rw [HLY.out]; omega))
    go_upto_region 26 with (go_at_call 16; (with_reducible refine HNT.out.mono ?_); rintro e V4 ⟨rfl, vL4, vZ4, A4, Z4, hs4, _, hc4⟩)
    have HS4 := hidd hs4
    have HD4 := hidd ((HS3.out.nk hc4 (bT := w6.heap.size) (by omega)).1.same D _ HD3.out rfl)
    clear c9 HNT hs4 hc4 HP3 HS3 HD3
    -- part
    have FK := HA0.out.fresh HS4.out.low
    obtain ⟨cy0, cy1⟩ := row2 FK.c8
    have hlc := HLA0.out.le
    have hd0 : Below V4.heap.size V4 V4.drew := (Below.refl _ _).drew
    have HDC : Hid (Calls Try.prog 17 #[.agg #[.slice xo d.nb xc, .slice yo d.np yc], .slice la (l.length / 2) lc] V4.drew fun e w'' => ∃ v, e = .returned (.tuple #[v, .int .i64 0]) ∧ OwnB w'' V4.heap.size v pt ∧ Below V4.heap.size V4 w'') := by
      refine (pdec_any (FK.vb.fresh hd0) (FK.vp.fresh hd0) (((HLA0.out.fresh HS4.out.low).take (by omega)).fresh hd0) (by omega) 0 pt HTP.out).mono ?_
      rintro e w'' ⟨v, rfl, h1, h2⟩
      exact ⟨v, rfl, Own.weaken h1 hd0.size, fresh_trans hd0 h2⟩
    have hSS : Hid (∀ w', Below V4.heap.size V4 w' → Below V4.heap.size V4 w' ∧ w'.cell? ⟨C8, 0, none⟩ = some (.slice xo d.nb xc) ∧ w'.cell? ⟨C8, 1, none⟩ = some (.slice yo d.np yc)) := fun w' h => ⟨h, fresh_cell h cy0, fresh_cell h cy1⟩
    obtain ⟨hf, HHF⟩ : ∃ h, Hid (h = l.length / 2) := ⟨_, rfl⟩
    rw [← HHF.out] at HDC
    obtain ⟨ew, eh, eh2, ew2⟩ := half_wrap HHF.out hln
    obtain ⟨q1, q2⟩ := half_le HHF.out hlc
    clear FK
    have s0 := hSS.out _ hd0
    refine wp_region_held_drew (S := fun w' => Below V4.heap.size V4 w' ∧ w'.cell? ⟨C8, 0, none⟩ = some (.slice xo d.nb xc) ∧ w'.cell? ⟨C8, 1, none⟩ = some (.slice yo d.np yc)) (by kernel_rfl) s0 (fun hHeld => ?_)
    refine wpAnyH_take (i := 0) (v := .agg #[.slice xo d.nb xc, .slice yo d.np yc]) rfl (by kernel_rfl) (by kernel_rfl) (by kernel_rfl) (fun _ _ _ h => h) (Or.inl ⟨by rfl, ?ya0⟩) s0 ?ra0
    case ya0 =>
      intro z hz
      obtain ⟨-, z0, z1⟩ := hz
      go_simp
      try first | with_reducible rfl | exact ew2 | exact ew
    refine wpAnyH_take (i := 1) (v := .slice la l.length lc) rfl (by kernel_rfl) (by kernel_rfl) (by kernel_rfl) (fun _ _ _ h => h) (Or.inl ⟨by rfl, ?ya1⟩) s0 ?ra1
    case ya1 =>
      intro z hz
      obtain ⟨-, z0, z1⟩ := hz
      go_simp
      try first | with_reducible rfl | exact ew2 | exact ew
    refine wpAnyH_take (i := 2) (v := .slice la l.length lc) rfl (by kernel_rfl) (by kernel_rfl) (by kernel_rfl) (fun _ _ _ h => h) (Or.inl ⟨by rfl, ?ya2⟩) s0 ?ra2
    case ya2 =>
      intro z hz
      obtain ⟨-, z0, z1⟩ := hz
      go_simp
      try first | with_reducible rfl | exact ew2 | exact ew
    refine wpAnyH_take (i := 3) (v := .int .i64 l.length) rfl (by kernel_rfl) (by kernel_rfl) (by kernel_rfl) (fun _ _ _ h => h) (Or.inl ⟨by rfl, ?ya3⟩) s0 ?ra3
    case ya3 =>
      intro z hz
      obtain ⟨-, z0, z1⟩ := hz
      go_simp
      try first | with_reducible rfl | exact ew2 | exact ew
    refine wpAnyH_take (i := 4) (v := .int .i64 hf) rfl (by kernel_rfl) (by kernel_rfl) (by kernel_rfl) (fun _ _ _ h => h) (Or.inl ⟨by rfl, ?ya4⟩) s0 ?ra4
    case ya4 =>
      intro z hz
      obtain ⟨-, z0, z1⟩ := hz
      go_simp
      try first | with_reducible rfl | exact ew2 | exact ew
    refine wpAnyH_take (i := 5) (v := .slice la hf lc) rfl (by kernel_rfl) (by kernel_rfl) (by kernel_rfl) (fun _ _ _ h => h) (Or.inl ⟨by rfl, ?ya5⟩) s0 ?ra5
    case ya5 =>
      intro z hz
      obtain ⟨-, z0, z1⟩ := hz
      go_simp
      try first | with_reducible rfl | exact ew2 | exact ew
    refine wpAnyH_ready (rs := [6]) (by kernel_rfl) (by simp) (AllReadyH.cons rfl (fun K hK => ?_) AllReadyH.nil)
    go_simp
    refine HDC.out.mono ?_
    rintro e V5 ⟨v9, rfl, hO9, hf9⟩
    have s1 := hSS.out _ hf9
    refine hK.out _ _ s1 (fun hH1 => ?_)
    clear hK K
    refine wpAnyH_take (i := 7) (v := .tuple #[v9, .int .i64 0]) rfl (by kernel_rfl) (by kernel_rfl) (by kernel_rfl) (fun _ _ _ h => h) (Or.inl ⟨by rfl, ?ya7⟩) s1 ?ra7
    case ya7 =>
      intro z hz
      obtain ⟨-, z0, z1⟩ := hz
      go_simp
      try first | with_reducible rfl | exact ew2 | exact ew
    refine wpAnyH_take (i := 8) (v := v9) rfl (by kernel_rfl) (by kernel_rfl) (by kernel_rfl) (fun _ _ _ h => h) (Or.inl ⟨by rfl, ?ya8⟩) s1 ?ra8
    case ya8 =>
      intro z hz
      obtain ⟨-, z0, z1⟩ := hz
      go_simp
      try first | with_reducible rfl | exact ew2 | exact ew
    refine wpAnyH_take (i := 9) (v := .int .i64 0) rfl (by kernel_rfl) (by kernel_rfl) (by kernel_rfl) (fun _ _ _ h => h) (Or.inl ⟨by rfl, ?ya9⟩) s1 ?ra9
    case ya9 =>
      intro z hz
      obtain ⟨-, z0, z1⟩ := hz
      go_simp
      try first | with_reducible rfl | exact ew2 | exact ew
    refine wpAnyH_take (i := 10) (v := v9) rfl (by kernel_rfl) (by kernel_rfl) (by kernel_rfl) (fun _ _ _ h => h) (Or.inl ⟨by rfl, ?ya10⟩) s1 ?ra10
    case ya10 =>
      intro z hz
      obtain ⟨-, z0, z1⟩ := hz
      go_simp
      try first | with_reducible rfl | exact ew2 | exact ew
    refine wpAnyH_take (i := 11) (v := .int .i64 0) rfl (by kernel_rfl) (by kernel_rfl) (by kernel_rfl) (fun _ _ _ h => h) (Or.inl ⟨by rfl, ?ya11⟩) s1 ?ra11
    case ya11 =>
      intro z hz
      obtain ⟨-, z0, z1⟩ := hz
      go_simp
      try first | with_reducible rfl | exact ew2 | exact ew
    refine wpAnyH_done (by kernel_rfl) ?_ _
    clear hH1 hHeld s0
    have HP5 := hidd (HS4.out.new hO9)
    have HS5 := hidd (HS4.out.fresh hf9)
    have HD5 := hidd ((KeepsOthers.of_below hf9).same D _ HD4.out rfl)
    clear HS4 HD4
    clear HDC cy0 cy1 hO9 hf9 s1 hSS hd0 q1 q2 ew ew2 eh eh2 hlc
    have c9 := (row1 HS5.out.c9).1
    have HNT := hidd (note_st HS5.out (by rw [HLZ.out]; exact HP5.out) (by omega) (by rw [HLZ.out]; omega))
    go_upto_region 28 with (go_at_call 16; (with_reducible refine HNT.out.mono ?_); rintro e V6 ⟨rfl, vL6, vZ6, A6, Z6, hs6, _, hc6⟩)
    have HS6 := hidd hs6
    have HD6 := hidd ((HS5.out.nk hc6 (bT := w6.heap.size) (by omega)).1.same D _ HD5.out rfl)
    clear c9 HNT hs6 hc6 HP5 HS5 HD5
    have HSK := HS6
    have HB6 := hidd (Below.refl V6.heap.size V6)
    -- lent
    have HCB := hidd (copyB_any ((HA0.out.fresh HS6.out.low).hk) (by omega))
    go_upto_region 29 with (go_at_call 6; (with_reducible refine HCB.out.mono ?_); rintro e V7 ⟨vt, rfl, ht, f7⟩; obtain ⟨ta7, tc7, rfl, _⟩ := ht.rd)
    have HS7 := hidd (HS6.out.fresh f7)
    have HD7 := hidd ((KeepsOthers.of_below f7).same D _ HD6.out rfl)
    have HB7 := hidd (fresh_trans HB6.out f7)
    clear HS6 HD6 HB6
    have HT7 := hidd ht
    have HTB : Hid (∀ b, (Value.slice ta7 n tc7).ownBlock = some b → V6.heap.size ≤ b ∧ b < V7.heap.size) := fun b hb => ht.lt b hb
    have hsz7 := f7.size
    clear HCB ht f7
    -- m
    have FK := HA0.out.fresh HS7.out.low
    obtain ⟨cy0, cy1⟩ := row2 FK.c8
    have HPE := hidd (penc_any FK.vb FK.vp HB.out (Own.rda HT7.out) HXb.out hn 0 l HX.out)
    clear FK
    go_upto_region 30 with (go_at_call 7; (with_reducible refine HPE.out.mono ?_); rintro e V8 ⟨vm, rfl, hm8, f8⟩)
    have HS8 := hidd (HS7.out.fresh f8)
    have HD8 := hidd ((KeepsOthers.of_below f8).same D _ HD7.out rfl)
    have HB8 := hidd (fresh_trans HB7.out f8)
    have HT8 := hidd (Own.kept HT7.out f8)
    clear HS7 HD7 HB7 HT7
    have HM8 := hidd hm8
    have HMB9 : Hid (∀ b, vm.ownBlock = some b → b < V8.heap.size) := fun b hb => (hm8.lt b hb).2
    have hsz8 := f8.size
    clear HPE hm8 f8 cy0 cy1
    obtain ⟨ma, mc, hvm, _⟩ := HM8.out.rd
    subst hvm
    -- n2
    have FK := HA0.out.fresh HS8.out.low
    obtain ⟨cy0, cy1⟩ := row2 FK.c8
    have HCB : Hid (∀ z, Below V8.heap.size V8 z → Calls Try.prog 6 #[.slice ko n ck] z fun e w' => ∃ v, e = .returned v ∧ Own w' z.heap.size 5 1 v n (fun j => .int .u8 (X j)) ∧ Below z.heap.size z w') := fun z h => copyB_any (FK.hk.fresh h) (by omega)
    have HPE : Hid (∀ z ao ca, Below V8.heap.size V8 z → RdA z ao 1 n ca (fun i => .int .u8 (X i)) → Calls Try.prog 7 #[.agg #[.slice xo d.nb xc, .slice yo d.np yc], .slice ao n ca] z fun e w'' => ∃ v, e = .returned (.tuple #[v, .int .i64 0]) ∧ OwnI w'' z.heap.size v l ∧ Below z.heap.size z w'') := fun z ao ca h hr => penc_any (FK.vb.fresh h) (FK.vp.fresh h) HB.out hr HXb.out hn 0 l HX.out
    clear FK
    have ew2 : True := trivial
    have ew : True := trivial
    have hd0 : Below V8.heap.size V8 V8.drew := (Below.refl _ _).drew
    have hSS : Hid (∀ w', Below V8.heap.size V8 w' → Below V8.heap.size V8 w' ∧ w'.cell? ⟨C8, 0, none⟩ = some (.slice xo d.nb xc) ∧ w'.cell? ⟨C8, 1, none⟩ = some (.slice yo d.np yc)) := fun w' h => ⟨h, fresh_cell h cy0, fresh_cell h cy1⟩
    have s0 := hSS.out _ hd0
    refine wp_region_held_drew (S := fun w' => Below V8.heap.size V8 w' ∧ w'.cell? ⟨C8, 0, none⟩ = some (.slice xo d.nb xc) ∧ w'.cell? ⟨C8, 1, none⟩ = some (.slice yo d.np yc)) (by kernel_rfl) s0 (fun hHeld => ?_)
    refine wpAnyH_take (i := 0) (v := .agg #[.slice xo d.nb xc, .slice yo d.np yc]) rfl (by kernel_rfl) (by kernel_rfl) (by kernel_rfl) (fun _ _ _ h => h) (Or.inl ⟨by rfl, ?yb0⟩) s0 ?rb0
    case yb0 =>
      intro z hz
      obtain ⟨-, z0, z1⟩ := hz
      go_simp
      try first | with_reducible rfl | exact ew2 | exact ew
    refine wpAnyH_take (i := 1) (v := .slice ko n ck) rfl (by kernel_rfl) (by kernel_rfl) (by kernel_rfl) (fun _ _ _ h => h) (Or.inl ⟨by rfl, ?yb1⟩) s0 ?rb1
    case yb1 =>
      intro z hz
      obtain ⟨-, z0, z1⟩ := hz
      go_simp
      try first | with_reducible rfl | exact ew2 | exact ew
    refine wpAnyH_ready (rs := [2]) (by kernel_rfl) (by simp) (AllReadyH.cons rfl (fun K hK => ?_) AllReadyH.nil)
    go_simp
    refine (HCB.out _ s0.1).mono ?_
    rintro e Y1 ⟨t1, rfl, ho1, g1⟩
    obtain ⟨a1, c1, rfl, r1⟩ := ho1.rd
    have s1 := hSS.out _ (fresh_trans s0.1 g1)
    refine hK.out _ _ s1 (fun hH1 => ?_)
    clear hK K
    refine wpAnyH_ready (rs := [3]) (by kernel_rfl) (by simp) (AllReadyH.cons rfl (fun K hK => ?_) AllReadyH.nil)
    go_simp
    refine (HPE.out _ _ _ s1.1 r1).mono ?_
    rintro e V9 ⟨vn, rfl, hn9, g2⟩
    have s2 := hSS.out _ (fresh_trans s1.1 g2)
    refine hK.out _ _ s2 (fun hH2 => ?_)
    clear hK K
    refine wpAnyH_take (i := 4) (v := .tuple #[vn, .int .i64 0]) rfl (by kernel_rfl) (by kernel_rfl) (by kernel_rfl) (fun _ _ _ h => h) (Or.inl ⟨by rfl, ?yb4⟩) s2 ?rb4
    case yb4 =>
      intro z hz
      obtain ⟨-, z0, z1⟩ := hz
      go_simp
      try first | with_reducible rfl | exact ew2 | exact ew
    refine wpAnyH_take (i := 5) (v := vn) rfl (by kernel_rfl) (by kernel_rfl) (by kernel_rfl) (fun _ _ _ h => h) (Or.inl ⟨by rfl, ?yb5⟩) s2 ?rb5
    case yb5 =>
      intro z hz
      obtain ⟨-, z0, z1⟩ := hz
      go_simp
      try first | with_reducible rfl | exact ew2 | exact ew
    refine wpAnyH_take (i := 6) (v := .int .i64 0) rfl (by kernel_rfl) (by kernel_rfl) (by kernel_rfl) (fun _ _ _ h => h) (Or.inl ⟨by rfl, ?yb6⟩) s2 ?rb6
    case yb6 =>
      intro z hz
      obtain ⟨-, z0, z1⟩ := hz
      go_simp
      try first | with_reducible rfl | exact ew2 | exact ew
    refine wpAnyH_take (i := 7) (v := vn) rfl (by kernel_rfl) (by kernel_rfl) (by kernel_rfl) (fun _ _ _ h => h) (Or.inl ⟨by rfl, ?yb7⟩) s2 ?rb7
    case yb7 =>
      intro z hz
      obtain ⟨-, z0, z1⟩ := hz
      go_simp
      try first | with_reducible rfl | exact ew2 | exact ew
    refine wpAnyH_take (i := 8) (v := .int .i64 0) rfl (by kernel_rfl) (by kernel_rfl) (by kernel_rfl) (fun _ _ _ h => h) (Or.inl ⟨by rfl, ?yb8⟩) s2 ?rb8
    case yb8 =>
      intro z hz
      obtain ⟨-, z0, z1⟩ := hz
      go_simp
      try first | with_reducible rfl | exact ew2 | exact ew
    refine wpAnyH_done (by kernel_rfl) ?_ _
    clear hHeld hH1 hH2
    have f9 := s2.1
    have HN9 := hidd (show OwnI V9 V8.heap.size vn l from Own.weaken hn9 s1.1.size)
    clear ho1 r1 g1 hn9 g2 s0 s1 s2 hSS hd0 HCB HPE cy0 cy1
    have HS9 := hidd (HS8.out.fresh f9)
    have HD9 := hidd ((KeepsOthers.of_below f9).same D _ HD8.out rfl)
    have HB9 := hidd (fresh_trans HB8.out f9)
    have HT9 := hidd (Own.kept HT8.out f9)
    have HM9 := hidd (Own.kept HM8.out f9)
    clear HS8 HD8 HB8 HT8 HM8
    have hsz9 := f9.size
    clear f9
    obtain ⟨na, nc, hvn, _⟩ := HN9.out.rd
    subst hvn
    go_upto_region 31 with fail
    -- few, want: the first half of the text
    have HXH : Hid (∀ i, i < n / 2 → 0 ≤ X i ∧ X i ≤ 255) := fun i hi => HXb.out i (by omega)
    obtain ⟨xf, lf, hxf⟩ := d.encOut_some X (n / 2)
    have HXF := hidd hxf
    clear hxf
    obtain ⟨hf2, HH2⟩ : ∃ h, Hid (h = n / 2) := ⟨_, rfl⟩
    rw [← HH2.out] at HXF HXH
    have hh2 : hf2 ≤ 1048576 := by have := HH2.out; omega
    have FK := HA0.out.fresh HS9.out.low
    obtain ⟨cy0, cy1⟩ := row2 FK.c8
    have hck := FK.hk.le
    obtain ⟨ew, eh, eh2, ew2⟩ := half_wrap HH2.out hn
    obtain ⟨q1, q2⟩ := half_le HH2.out hck
    have HCB : Hid (∀ z, Below V9.heap.size V9 z → Calls Try.prog 6 #[.slice ko hf2 ck] z fun e w' => ∃ v, e = .returned v ∧ Own w' z.heap.size 5 1 v hf2 (fun j => .int .u8 (X j)) ∧ Below z.heap.size z w') := fun z h => copyB_any ((FK.hk.take (by have := HH2.out; omega)).fresh h) (by omega)
    have HPE : Hid (∀ z ao ca, Below V9.heap.size V9 z → RdA z ao 1 hf2 ca (fun i => .int .u8 (X i)) → Calls Try.prog 7 #[.agg #[.slice xo d.nb xc, .slice yo d.np yc], .slice ao hf2 ca] z fun e w'' => ∃ v, e = .returned (.tuple #[v, .int .i64 xf]) ∧ OwnI w'' z.heap.size v lf ∧ Below z.heap.size z w'') := fun z ao ca h hr => penc_any (FK.vb.fresh h) (FK.vp.fresh h) HB.out hr HXH.out hh2 xf lf HXF.out
    clear FK
    have hd0 : Below V9.heap.size V9 V9.drew := (Below.refl _ _).drew
    have hSS : Hid (∀ w', Below V9.heap.size V9 w' → Below V9.heap.size V9 w' ∧ w'.cell? ⟨C8, 0, none⟩ = some (.slice xo d.nb xc) ∧ w'.cell? ⟨C8, 1, none⟩ = some (.slice yo d.np yc)) := fun w' h => ⟨h, fresh_cell h cy0, fresh_cell h cy1⟩
    have s0 := hSS.out _ hd0
    refine wp_region_held_drew (S := fun w' => Below V9.heap.size V9 w' ∧ w'.cell? ⟨C8, 0, none⟩ = some (.slice xo d.nb xc) ∧ w'.cell? ⟨C8, 1, none⟩ = some (.slice yo d.np yc)) (by kernel_rfl) s0 (fun hHeld => ?_)
    refine wpAnyH_take (i := 0) (v := .agg #[.slice xo d.nb xc, .slice yo d.np yc]) rfl (by kernel_rfl) (by kernel_rfl) (by kernel_rfl) (fun _ _ _ h => h) (Or.inl ⟨by rfl, ?yc0⟩) s0 ?rc0
    case yc0 =>
      intro z hz
      obtain ⟨-, z0, z1⟩ := hz
      go_simp
      try first | with_reducible rfl | exact ew2 | exact ew
    refine wpAnyH_take (i := 1) (v := .slice ko n ck) rfl (by kernel_rfl) (by kernel_rfl) (by kernel_rfl) (fun _ _ _ h => h) (Or.inl ⟨by rfl, ?yc1⟩) s0 ?rc1
    case yc1 =>
      intro z hz
      obtain ⟨-, z0, z1⟩ := hz
      go_simp
      try first | with_reducible rfl | exact ew2 | exact ew
    refine wpAnyH_take (i := 2) (v := .slice ko n ck) rfl (by kernel_rfl) (by kernel_rfl) (by kernel_rfl) (fun _ _ _ h => h) (Or.inl ⟨by rfl, ?yc2⟩) s0 ?rc2
    case yc2 =>
      intro z hz
      obtain ⟨-, z0, z1⟩ := hz
      go_simp
      try first | with_reducible rfl | exact ew2 | exact ew
    refine wpAnyH_take (i := 3) (v := .int .i64 n) rfl (by kernel_rfl) (by kernel_rfl) (by kernel_rfl) (fun _ _ _ h => h) (Or.inl ⟨by rfl, ?yc3⟩) s0 ?rc3
    case yc3 =>
      intro z hz
      obtain ⟨-, z0, z1⟩ := hz
      go_simp
      try first | with_reducible rfl | exact ew2 | exact ew
    refine wpAnyH_take (i := 4) (v := .int .i64 hf2) rfl (by kernel_rfl) (by kernel_rfl) (by kernel_rfl) (fun _ _ _ h => h) (Or.inl ⟨by rfl, ?yc4⟩) s0 ?rc4
    case yc4 =>
      intro z hz
      obtain ⟨-, z0, z1⟩ := hz
      go_simp
      try first | with_reducible rfl | exact ew2 | exact ew
    refine wpAnyH_take (i := 5) (v := .slice ko hf2 ck) rfl (by kernel_rfl) (by kernel_rfl) (by kernel_rfl) (fun _ _ _ h => h) (Or.inl ⟨by rfl, ?yc5⟩) s0 ?rc5
    case yc5 =>
      intro z hz
      obtain ⟨-, z0, z1⟩ := hz
      go_simp
      try first | with_reducible rfl | exact ew2 | exact ew
    refine wpAnyH_ready (rs := [6]) (by kernel_rfl) (by simp) (AllReadyH.cons rfl (fun K hK => ?_) AllReadyH.nil)
    go_simp
    refine (HCB.out _ s0.1).mono ?_
    rintro e Y1 ⟨t1, rfl, ho1, g1⟩
    obtain ⟨a1, c1, rfl, r1⟩ := ho1.rd
    have s1 := hSS.out _ (fresh_trans s0.1 g1)
    refine hK.out _ _ s1 (fun hH1 => ?_)
    clear hK K
    refine wpAnyH_ready (rs := [7]) (by kernel_rfl) (by simp) (AllReadyH.cons rfl (fun K hK => ?_) AllReadyH.nil)
    go_simp
    refine (HPE.out _ _ _ s1.1 r1).mono ?_
    rintro e V10 ⟨vf, rfl, hn9, g2⟩
    have s2 := hSS.out _ (fresh_trans s1.1 g2)
    refine hK.out _ _ s2 (fun hH2 => ?_)
    clear hK K
    refine wpAnyH_take (i := 8) (v := .tuple #[vf, .int .i64 xf]) rfl (by kernel_rfl) (by kernel_rfl) (by kernel_rfl) (fun _ _ _ h => h) (Or.inl ⟨by rfl, ?yc8⟩) s2 ?rc8
    case yc8 =>
      intro z hz
      obtain ⟨-, z0, z1⟩ := hz
      go_simp
      try first | with_reducible rfl | exact ew2 | exact ew
    refine wpAnyH_take (i := 9) (v := vf) rfl (by kernel_rfl) (by kernel_rfl) (by kernel_rfl) (fun _ _ _ h => h) (Or.inl ⟨by rfl, ?yc9⟩) s2 ?rc9
    case yc9 =>
      intro z hz
      obtain ⟨-, z0, z1⟩ := hz
      go_simp
      try first | with_reducible rfl | exact ew2 | exact ew
    refine wpAnyH_take (i := 10) (v := .int .i64 xf) rfl (by kernel_rfl) (by kernel_rfl) (by kernel_rfl) (fun _ _ _ h => h) (Or.inl ⟨by rfl, ?yc10⟩) s2 ?rc10
    case yc10 =>
      intro z hz
      obtain ⟨-, z0, z1⟩ := hz
      go_simp
      try first | with_reducible rfl | exact ew2 | exact ew
    refine wpAnyH_take (i := 11) (v := vf) rfl (by kernel_rfl) (by kernel_rfl) (by kernel_rfl) (fun _ _ _ h => h) (Or.inl ⟨by rfl, ?yc11⟩) s2 ?rc11
    case yc11 =>
      intro z hz
      obtain ⟨-, z0, z1⟩ := hz
      go_simp
      try first | with_reducible rfl | exact ew2 | exact ew
    refine wpAnyH_take (i := 12) (v := .int .i64 xf) rfl (by kernel_rfl) (by kernel_rfl) (by kernel_rfl) (fun _ _ _ h => h) (Or.inl ⟨by rfl, ?yc12⟩) s2 ?rc12
    case yc12 =>
      intro z hz
      obtain ⟨-, z0, z1⟩ := hz
      go_simp
      try first | with_reducible rfl | exact ew2 | exact ew
    refine wpAnyH_done (by kernel_rfl) ?_ _
    clear hHeld hH1 hH2
    have f9 := s2.1
    have HF10 := hidd (show OwnI V10 V9.heap.size vf lf from Own.weaken hn9 s1.1.size)
    clear ho1 r1 g1 hn9 g2 s0 s1 s2 hSS hd0 HCB HPE cy0 cy1 hck q1 q2
    have HS10 := hidd (HS9.out.fresh f9)
    have HD10 := hidd ((KeepsOthers.of_below f9).same D _ HD9.out rfl)
    have HB10 := hidd (fresh_trans HB9.out f9)
    have HT10 := hidd (Own.kept HT9.out f9)
    have HM10 := hidd (Own.kept HM9.out f9)
    have HN10 := hidd (Own.kept HN9.out f9)
    clear HS9 HD9 HB9 HT9 HM9 HN9
    have hsz10 := f9.size
    clear f9
    obtain ⟨fa, fc, hvf, _⟩ := HF10.out.rd
    subst hvf
    go_upto_region 32 with fail
    have FK := HA0.out.fresh HS10.out.low
    obtain ⟨cy0, cy1⟩ := row2 FK.b0
    have hck := FK.hk.le
    obtain ⟨q1, q2⟩ := half_le HH2.out hck
    have HRE : Hid (∀ z, Below V10.heap.size V10 z → Calls Try.prog 8 #[.agg #[.slice bo d.nb cb, .slice po d.np cp], .slice ko hf2 ck] z fun e w' => EncO z w' lf xf e) := fun z h => renc_own (FK.hb.fresh h) (FK.hp.fresh h) (by omega) ((FK.hk.take (by have := HH2.out; omega)).fresh h) HXH.out hh2 xf lf HXF.out
    clear FK
    have hd0 : Below V10.heap.size V10 V10.drew := (Below.refl _ _).drew
    have hSS : Hid (∀ w', Below V10.heap.size V10 w' → Below V10.heap.size V10 w' ∧ w'.cell? ⟨B0, 0, none⟩ = some (.slice bo d.nb cb) ∧ w'.cell? ⟨B0, 1, none⟩ = some (.slice po d.np cp)) := fun w' h => ⟨h, fresh_cell h cy0, fresh_cell h cy1⟩
    have s0 := hSS.out _ hd0
    refine wp_region_held_drew (S := fun w' => Below V10.heap.size V10 w' ∧ w'.cell? ⟨B0, 0, none⟩ = some (.slice bo d.nb cb) ∧ w'.cell? ⟨B0, 1, none⟩ = some (.slice po d.np cp)) (by kernel_rfl) s0 (fun hHeld => ?_)
    refine wpAnyH_take (i := 0) (v := .agg #[.slice bo d.nb cb, .slice po d.np cp]) rfl (by kernel_rfl) (by kernel_rfl) (by kernel_rfl) (fun _ _ _ h => h) (Or.inl ⟨by rfl, ?yd0⟩) s0 ?rd0
    case yd0 =>
      intro z hz
      obtain ⟨-, z0, z1⟩ := hz
      go_simp
      try first | with_reducible rfl | exact ew2 | exact ew
    refine wpAnyH_take (i := 1) (v := .slice ko n ck) rfl (by kernel_rfl) (by kernel_rfl) (by kernel_rfl) (fun _ _ _ h => h) (Or.inl ⟨by rfl, ?yd1⟩) s0 ?rd1
    case yd1 =>
      intro z hz
      obtain ⟨-, z0, z1⟩ := hz
      go_simp
      try first | with_reducible rfl | exact ew2 | exact ew
    refine wpAnyH_take (i := 2) (v := .slice ko n ck) rfl (by kernel_rfl) (by kernel_rfl) (by kernel_rfl) (fun _ _ _ h => h) (Or.inl ⟨by rfl, ?yd2⟩) s0 ?rd2
    case yd2 =>
      intro z hz
      obtain ⟨-, z0, z1⟩ := hz
      go_simp
      try first | with_reducible rfl | exact ew2 | exact ew
    refine wpAnyH_take (i := 3) (v := .int .i64 n) rfl (by kernel_rfl) (by kernel_rfl) (by kernel_rfl) (fun _ _ _ h => h) (Or.inl ⟨by rfl, ?yd3⟩) s0 ?rd3
    case yd3 =>
      intro z hz
      obtain ⟨-, z0, z1⟩ := hz
      go_simp
      try first | with_reducible rfl | exact ew2 | exact ew
    refine wpAnyH_take (i := 4) (v := .int .i64 hf2) rfl (by kernel_rfl) (by kernel_rfl) (by kernel_rfl) (fun _ _ _ h => h) (Or.inl ⟨by rfl, ?yd4⟩) s0 ?rd4
    case yd4 =>
      intro z hz
      obtain ⟨-, z0, z1⟩ := hz
      go_simp
      try first | with_reducible rfl | exact ew2 | exact ew
    refine wpAnyH_take (i := 5) (v := .slice ko hf2 ck) rfl (by kernel_rfl) (by kernel_rfl) (by kernel_rfl) (fun _ _ _ h => h) (Or.inl ⟨by rfl, ?yd5⟩) s0 ?rd5
    case yd5 =>
      intro z hz
      obtain ⟨-, z0, z1⟩ := hz
      go_simp
      try first | with_reducible rfl | exact ew2 | exact ew
    refine wpAnyH_ready (rs := [6]) (by kernel_rfl) (by simp) (AllReadyH.cons rfl (fun K hK => ?_) AllReadyH.nil)
    go_simp
    refine (HRE.out _ s0.1).mono ?_
    rintro e V11 ⟨wa, wc, rfl, hw11, g1⟩
    have s1 := hSS.out _ (fresh_trans s0.1 g1)
    refine hK.out _ _ s1 (fun hH1 => ?_)
    clear hK K
    refine wpAnyH_take (i := 7) (v := .tuple #[.slice wa lf.length wc, .int .i64 xf]) rfl (by kernel_rfl) (by kernel_rfl) (by kernel_rfl) (fun _ _ _ h => h) (Or.inl ⟨by rfl, ?yd7⟩) s1 ?rd7
    case yd7 =>
      intro z hz
      obtain ⟨-, z0, z1⟩ := hz
      go_simp
      try first | with_reducible rfl | exact ew2 | exact ew
    refine wpAnyH_take (i := 8) (v := .slice wa lf.length wc) rfl (by kernel_rfl) (by kernel_rfl) (by kernel_rfl) (fun _ _ _ h => h) (Or.inl ⟨by rfl, ?yd8⟩) s1 ?rd8
    case yd8 =>
      intro z hz
      obtain ⟨-, z0, z1⟩ := hz
      go_simp
      try first | with_reducible rfl | exact ew2 | exact ew
    refine wpAnyH_take (i := 9) (v := .int .i64 xf) rfl (by kernel_rfl) (by kernel_rfl) (by kernel_rfl) (fun _ _ _ h => h) (Or.inl ⟨by rfl, ?yd9⟩) s1 ?rd9
    case yd9 =>
      intro z hz
      obtain ⟨-, z0, z1⟩ := hz
      go_simp
      try first | with_reducible rfl | exact ew2 | exact ew
    refine wpAnyH_take (i := 10) (v := .slice wa lf.length wc) rfl (by kernel_rfl) (by kernel_rfl) (by kernel_rfl) (fun _ _ _ h => h) (Or.inl ⟨by rfl, ?yd10⟩) s1 ?rd10
    case yd10 =>
      intro z hz
      obtain ⟨-, z0, z1⟩ := hz
      go_simp
      try first | with_reducible rfl | exact ew2 | exact ew
    refine wpAnyH_take (i := 11) (v := .int .i64 xf) rfl (by kernel_rfl) (by kernel_rfl) (by kernel_rfl) (fun _ _ _ h => h) (Or.inl ⟨by rfl, ?yd11⟩) s1 ?rd11
    case yd11 =>
      intro z hz
      obtain ⟨-, z0, z1⟩ := hz
      go_simp
      try first | with_reducible rfl | exact ew2 | exact ew
    refine wpAnyH_done (by kernel_rfl) ?_ _
    clear hHeld hH1
    have f9 := s1.1
    have HW11 := hidd (show OwnI V11 V10.heap.size (.slice wa lf.length wc) lf from Own.weaken hw11 s0.1.size)
    clear hw11 g1 s0 s1 hSS hd0 HRE cy0 cy1 hck q1 q2 ew ew2 eh eh2
    have HS11 := hidd (HS10.out.fresh f9)
    have HD11 := hidd ((KeepsOthers.of_below f9).same D _ HD10.out rfl)
    have HB11 := hidd (fresh_trans HB10.out f9)
    have HT11 := hidd (Own.kept HT10.out f9)
    have HM11 := hidd (Own.kept HM10.out f9)
    have HN11 := hidd (Own.kept HN10.out f9)
    have HF11 := hidd (Own.kept HF10.out f9)
    clear HS10 HD10 HB10 HT10 HM10 HN10 HF10
    have hsz11 := f9.size
    clear f9
    go_upto_region 33 with fail
    -- the lists are those
    have HMB : Hid (∀ b, (Value.slice ma l.length mc).ownBlock = some b → V7.heap.size ≤ b) := fun b hb => (HM11.out.lt b hb).1
    have HNB : Hid (∀ b, (Value.slice na l.length nc).ownBlock = some b → V8.heap.size ≤ b) := fun b hb => (HN11.out.lt b hb).1
    have HFB : Hid (∀ b, (Value.slice fa lf.length fc).ownBlock = some b → V9.heap.size ≤ b) := fun b hb => (HF11.out.lt b hb).1
    have HWB : Hid (∀ b, (Value.slice wa lf.length wc).ownBlock = some b → V10.heap.size ≤ b) := fun b hb => (HW11.out.lt b hb).1
    have HMBX := HMB9
    have HE1 := hidd (eqInts_same (Own.rda HM11.out) (HLA0.out.fresh HS11.out.low) (fun _ _ => rfl))
    have HE2 : Hid (∀ z, Below V11.heap.size V11 z → Calls Try.prog 9 #[.slice na l.length nc, .slice la l.length lc] z fun e w' => e = .returned (.bool true) ∧ Below z.heap.size z w') := fun z h => eqInts_same ((Own.rda HN11.out).fresh h) ((HLA0.out.fresh HS11.out.low).fresh h) (fun _ _ => rfl)
    have HE3 : Hid (∀ z, Below V11.heap.size V11 z → Calls Try.prog 9 #[.slice fa lf.length fc, .slice wa lf.length wc] z fun e w' => e = .returned (.bool true) ∧ Below z.heap.size z w') := fun z h => eqInts_same ((Own.rda HF11.out).fresh h) ((Own.rda HW11.out).fresh h) (fun _ _ => rfl)
    go_upto_region 35 with (first
      | (go_at_call 9; (with_reducible refine HE1.out.mono ?_); rintro e V12 ⟨rfl, f12⟩; have F12 := hidd f12; clear f12)
      | (go_at_call 9; (with_reducible refine (HE2.out _ F12.out).mono ?_); rintro e V13 ⟨rfl, f13⟩; have F13 := hidd (fresh_trans F12.out f13); clear f13)
      | (go_at_call 9; (with_reducible refine (HE3.out _ F13.out).mono ?_); rintro e V14 ⟨rfl, f14⟩))
    have F14 := hidd (fresh_trans F13.out f14)
    have HS14 := hidd (HS11.out.fresh F14.out)
    have HD14 := hidd ((KeepsOthers.of_below F14.out).same D _ HD11.out rfl)
    have HB14 := hidd (fresh_trans HB11.out F14.out)
    have HT14 := hidd (Own.kept HT11.out F14.out)
    have HM14 := hidd (Own.kept HM11.out F14.out)
    have HN14 := hidd (Own.kept HN11.out F14.out)
    have HF14 := hidd (Own.kept HF11.out F14.out)
    have HW14 := hidd (Own.kept HW11.out F14.out)
    clear HS11 HD11 HB11 HT11 HM11 HN11 HF11 HW11
    have HSZ14 := hidd F14.out.size
    clear HE1 HE2 HE3 F12 F13 F14 f14
    have HLE : Hid (∀ i, i < 4 * N + 1 + 1 + 1 → (ls i).length ≤ 1073741824) := fun i _ => by
      rw [HLS.out]
      exact lsF_le (fun t ht => Nat.le_trans (HRT.out.len_all t (by rw [← HN.out]; exact ht)) (by omega)) (Nat.le_trans (HRT.out.len_all 0 (by have := HN.out; omega)) (by omega)) (by rw [hnX]; omega) (by rw [hnX]; omega) (by omega) i
    have hszK : V11.heap.size ≤ V14.heap.size := HSZ14.out
    have hAV : wA.heap.size ≤ V7.heap.size := Nat.le_trans HSK.out.low.size hsz7
    have HMB2 : Hid (∀ b, (Value.slice ma l.length mc).ownBlock = some b → b < V8.heap.size) := HMBX
    by_cases hn0 : 0 < n
    · have n0 : (0 : Int) < (n : Int) := by omega
      have t9 : decide (0 < n) = true := by simpa using hn0
      go_upto_region 36 with fail
      clear t9
      have FK := HA0.out.fresh HS14.out.low
      obtain ⟨b1, o1, eko, hkc⟩ := FK.hk.one hn0
      subst eko
      obtain ⟨q, HQ⟩ : ∃ q, Hid (q + 1 = n) := ⟨n - 1, by show _ = _; omega⟩
      have hqn : q < n := by have := HQ.out; omega
      have x1 := hkc q hqn
      obtain ⟨gT, cT, eT, _⟩ := own_some HT14.out hn0
      cases eT
      have c0 : V14.cell? ⟨gT, 0, none⟩ = some (.int .u8 (X 0)) := by
        obtain ⟨b9, o9, e9, hc9⟩ := (Own.rda HT14.out).one hn0
        cases e9
        have := hc9 0 hn0
        rw [Nat.zero_add] at this
        exact this
      have fz := HT14.out.froz
      have e3 : (n : Int) - 1 = (q : Int) := by have := HQ.out; omega
      have q0 : (0 : Int) ≤ (q : Int) := by omega
      have q1 : (q : Int) < (n : Int) := by omega
      have hgT := HTB.out gT rfl
      clear FK hkc
      go_upto_region 37 with fail
      obtain ⟨V15, HV15⟩ : ∃ x, Hid (x = V14.setCell ⟨gT, 0, none⟩ (.int .u8 (X q))) := ⟨_, rfl⟩
      rw [← HV15.out]
      obtain ⟨X', HXE⟩ : ∃ f : Nat → Int, Hid (∀ i, f i = if i = 0 then X q else X i) := ⟨fun i => if i = 0 then X q else X i, fun i => rfl⟩
      have HC15 : Hid (Chg V14 V15 (fun b => b = gT)) := by
        show Chg V14 V15 _
        rw [HV15.out]; exact Chg.of_set _ _ _ _
      have HD15 : Hid (V15.heap[D]? = some (.deferred (some []))) := by
        show V15.heap[D]? = _
        rw [HV15.out]; exact (KeepsOthers.setCell V14 ⟨gT, 0, none⟩ (.int .u8 (X q))).same D _ HD14.out rfl
      have HB15 := hidd (HC15.out.belowN HB14.out HB14.out.size (fun b e => by omega))
      have HT15 : Hid (Own V15 V6.heap.size 5 1 (.slice (some ⟨gT, 0, none⟩) n tc7) n (fun i => .int .u8 (X' i))) := by
        show Own V15 _ _ _ _ _ _
        rw [HV15.out]
        exact HT14.out.write 0 _ _ (fun r _ => by
          show Value.int .u8 (X' r) = _
          rw [HXE.out r]
          by_cases e : r = 0
          · rw [if_pos e, if_pos e]
          · rw [if_neg e, if_neg e])
      have HM15 := hidd (own_chg HM14.out HC15.out (fun b hb e => by have := HMB.out b hb; omega))
      have HN15 := hidd (own_chg HN14.out HC15.out (fun b hb e => by have := HNB.out b hb; omega))
      have HF15 := hidd (own_chg HF14.out HC15.out (fun b hb e => by have := HFB.out b hb; omega))
      have HW15 := hidd (own_chg HW14.out HC15.out (fun b hb e => by have := HWB.out b hb; omega))
      have hsz15 : V14.heap.size ≤ V15.heap.size := HC15.out.low.size
      clear HV15 HC15 HD14 HB14 HT14 HM14 HN14 HF14 HW14 x1 c0 fz e3 q0 q1 n0
      have HXb2 : Hid (∀ i, i < n → 0 ≤ X' i ∧ X' i ≤ 255) := fun i hi => by
        rw [HXE.out i]
        split
        · exact HXb.out q hqn
        · exact HXb.out i hi
      obtain ⟨x2, l2, hx2⟩ := d.encOut_some X' n
      have HX2 := hidd hx2
      clear hx2 HXE HQ hqn
      have FK := HA0.out.fresh (HSK.out.fresh HB15.out).low
      obtain ⟨cy0, cy1⟩ := row2 FK.c8
      have HPE := hidd (penc_any FK.vb FK.vp HB.out (Own.rda HT15.out) HXb2.out hn x2 l2 HX2.out)
      clear FK
      go_upto_region 38 with (go_at_call 7; (with_reducible refine HPE.out.mono ?_); rintro e V16 ⟨vo, rfl, ho16, f16⟩; obtain ⟨oa, oc, rfl, ro16⟩ := OwnI.get ho16)
      have HD16 := hidd ((KeepsOthers.of_below f16).same D _ HD15.out rfl)
      have HB16 := hidd (fresh_trans HB15.out f16)
      have HT16 := hidd (Own.kept HT15.out f16)
      have HM16 := hidd (Own.kept HM15.out f16)
      have HN16 := hidd (Own.kept HN15.out f16)
      have HF16 := hidd (Own.kept HF15.out f16)
      have HW16 := hidd (Own.kept HW15.out f16)
      clear HD15 HB15 HT15 HM15 HN15 HF15 HW15
      have hsz16 := f16.size
      have HO16 := hidd ro16
      clear HPE cy0 cy1 ho16 ro16 f16
      have FK := HA0.out.fresh (HSK.out.fresh HB16.out).low
      obtain ⟨cy0, cy1⟩ := row2 FK.b0
      have HCB : Hid (∀ z, Below V16.heap.size V16 z → Calls Try.prog 6 #[.slice (some ⟨gT, 0, none⟩) n tc7] z fun e w' => ∃ v, e = .returned v ∧ Own w' z.heap.size 5 1 v n (fun j => .int .u8 (X' j)) ∧ Below z.heap.size z w') := fun z h => copyB_any ((Own.rda HT16.out).fresh h) (by omega)
      have HRE : Hid (∀ z ao ca, Below V16.heap.size V16 z → RdA z ao 1 n ca (fun i => .int .u8 (X' i)) → Calls Try.prog 8 #[.agg #[.slice bo d.nb cb, .slice po d.np cp], .slice ao n ca] z fun e w' => EncO z w' l2 x2 e) := fun z ao ca h hr => renc_own (FK.hb.fresh h) (FK.hp.fresh h) (by omega) hr HXb2.out hn x2 l2 HX2.out
      clear FK
      have ew2 : True := trivial
      have ew : True := trivial
      have hd0 : Below V16.heap.size V16 V16.drew := (Below.refl _ _).drew
      have hSS : Hid (∀ w', Below V16.heap.size V16 w' → Below V16.heap.size V16 w' ∧ w'.cell? ⟨B0, 0, none⟩ = some (.slice bo d.nb cb) ∧ w'.cell? ⟨B0, 1, none⟩ = some (.slice po d.np cp)) := fun w' h => ⟨h, fresh_cell h cy0, fresh_cell h cy1⟩
      have s0 := hSS.out _ hd0
      refine wp_region_held_drew (S := fun w' => Below V16.heap.size V16 w' ∧ w'.cell? ⟨B0, 0, none⟩ = some (.slice bo d.nb cb) ∧ w'.cell? ⟨B0, 1, none⟩ = some (.slice po d.np cp)) (by kernel_rfl) s0 (fun hHeld => ?_)
      refine wpAnyH_take (i := 0) (v := .agg #[.slice bo d.nb cb, .slice po d.np cp]) rfl (by kernel_rfl) (by kernel_rfl) (by kernel_rfl) (fun _ _ _ h => h) (Or.inl ⟨by rfl, ?ye0⟩) s0 ?re0
      case ye0 =>
        intro z hz
        obtain ⟨-, z0, z1⟩ := hz
        go_simp
        try first | with_reducible rfl | exact ew2 | exact ew
      refine wpAnyH_take (i := 1) (v := .slice (some ⟨gT, 0, none⟩) n tc7) rfl (by kernel_rfl) (by kernel_rfl) (by kernel_rfl) (fun _ _ _ h => h) (Or.inl ⟨by rfl, ?ye1⟩) s0 ?re1
      case ye1 =>
        intro z hz
        obtain ⟨-, z0, z1⟩ := hz
        go_simp
        try first | with_reducible rfl | exact ew2 | exact ew
      refine wpAnyH_ready (rs := [2]) (by kernel_rfl) (by simp) (AllReadyH.cons rfl (fun K hK => ?_) AllReadyH.nil)
      go_simp
      refine (HCB.out _ s0.1).mono ?_
      rintro e Y1 ⟨t1, rfl, ho1, g1⟩
      obtain ⟨a1, c1, rfl, r1⟩ := ho1.rd
      have s1 := hSS.out _ (fresh_trans s0.1 g1)
      refine hK.out _ _ s1 (fun hH1 => ?_)
      clear hK K
      refine wpAnyH_ready (rs := [3]) (by kernel_rfl) (by simp) (AllReadyH.cons rfl (fun K hK => ?_) AllReadyH.nil)
      go_simp
      refine (HRE.out _ _ _ s1.1 r1).mono ?_
      rintro e V17 ⟨pa, pc9, rfl, hw17, g2⟩
      have s2 := hSS.out _ (fresh_trans s1.1 g2)
      refine hK.out _ _ s2 (fun hH2 => ?_)
      clear hK K
      refine wpAnyH_take (i := 4) (v := .tuple #[.slice pa l2.length pc9, .int .i64 x2]) rfl (by kernel_rfl) (by kernel_rfl) (by kernel_rfl) (fun _ _ _ h => h) (Or.inl ⟨by rfl, ?ye4⟩) s2 ?re4
      case ye4 =>
        intro z hz
        obtain ⟨-, z0, z1⟩ := hz
        go_simp
        try first | with_reducible rfl | exact ew2 | exact ew
      refine wpAnyH_take (i := 5) (v := .slice pa l2.length pc9) rfl (by kernel_rfl) (by kernel_rfl) (by kernel_rfl) (fun _ _ _ h => h) (Or.inl ⟨by rfl, ?ye5⟩) s2 ?re5
      case ye5 =>
        intro z hz
        obtain ⟨-, z0, z1⟩ := hz
        go_simp
        try first | with_reducible rfl | exact ew2 | exact ew
      refine wpAnyH_take (i := 6) (v := .int .i64 x2) rfl (by kernel_rfl) (by kernel_rfl) (by kernel_rfl) (fun _ _ _ h => h) (Or.inl ⟨by rfl, ?ye6⟩) s2 ?re6
      case ye6 =>
        intro z hz
        obtain ⟨-, z0, z1⟩ := hz
        go_simp
        try first | with_reducible rfl | exact ew2 | exact ew
      refine wpAnyH_take (i := 7) (v := .slice pa l2.length pc9) rfl (by kernel_rfl) (by kernel_rfl) (by kernel_rfl) (fun _ _ _ h => h) (Or.inl ⟨by rfl, ?ye7⟩) s2 ?re7
      case ye7 =>
        intro z hz
        obtain ⟨-, z0, z1⟩ := hz
        go_simp
        try first | with_reducible rfl | exact ew2 | exact ew
      refine wpAnyH_take (i := 8) (v := .int .i64 x2) rfl (by kernel_rfl) (by kernel_rfl) (by kernel_rfl) (fun _ _ _ h => h) (Or.inl ⟨by rfl, ?ye8⟩) s2 ?re8
      case ye8 =>
        intro z hz
        obtain ⟨-, z0, z1⟩ := hz
        go_simp
        try first | with_reducible rfl | exact ew2 | exact ew
      refine wpAnyH_done (by kernel_rfl) ?_ _
      clear hHeld hH1 hH2
      have f9 := s2.1
      have HP17 := hidd (Own.rda hw17)
      have HO17 := hidd (HO16.out.fresh f9)
      clear ho1 r1 g1 hw17 g2 s0 s1 s2 hSS hd0 HCB HRE cy0 cy1 HO16
      have HD17 := hidd ((KeepsOthers.of_below f9).same D _ HD16.out rfl)
      have HB17 := hidd (fresh_trans HB16.out f9)
      have HT17 := hidd (Own.kept HT16.out f9)
      have HM17 := hidd (Own.kept HM16.out f9)
      have HN17 := hidd (Own.kept HN16.out f9)
      have HF17 := hidd (Own.kept HF16.out f9)
      have HW17 := hidd (Own.kept HW16.out f9)
      clear HD16 HB16 HT16 HM16 HN16 HF16 HW16
      have hsz17 := f9.size
      clear f9
      go_upto_region 39 with fail
      have HE1 := hidd (eqInts_same HO17.out HP17.out (fun _ _ => rfl))
      have tx9 : (x2 != x2) = false := by simp
      go_upto_region 41 with (go_at_call 9; (with_reducible refine HE1.out.mono ?_); rintro e V18 ⟨rfl, f18⟩)
      have HD18 := hidd ((KeepsOthers.of_below f18).same D _ HD17.out rfl)
      have HB18 := hidd (fresh_trans HB17.out f18)
      have HT18 := hidd (Own.kept HT17.out f18)
      have HM18 := hidd (Own.kept HM17.out f18)
      have HN18 := hidd (Own.kept HN17.out f18)
      have HF18 := hidd (Own.kept HF17.out f18)
      have HW18 := hidd (Own.kept HW17.out f18)
      clear HD17 HB17 HT17 HM17 HN17 HF17 HW17
      have hszK : V11.heap.size ≤ V18.heap.size := Nat.le_trans (Nat.le_trans (Nat.le_trans (Nat.le_trans hszK hsz15) hsz16) hsz17) f18.size
      clear HE1 tx9 f18 HO17 HP17 HT18
      -- the book
      have St := HSK.out.fresh HB18.out
      have HST := hidd (still_st St (by omega))
      have HAP : Hid (∀ z, Below V18.heap.size V18 z → Calls Try.prog 19 #[.pointer (some ⟨g, 0, none⟩)] z fun e w' => e = .returned (.bool true) ∧ Chg z w' (fun b => b = g ∨ ∃ i, i < 4 * N + 1 + 1 + 1 ∧ (A6 i).ownBlock = some b)) := fun z h => apart_st (St.fresh h) (by omega) HLE.out
      have c9 := (row1 St.c9).1
      have hlowS := hidd St.low
      clear St
      go_upto_region 42 with (first
        | (go_at_call 18; (with_reducible refine HST.out.mono ?_); rintro e Va ⟨rfl, fa9⟩; have c9a := fresh_cell fa9 c9; have FA := hidd fa9; clear fa9)
        | (go_at_call 19; (with_reducible refine (HAP.out _ FA.out).mono ?_); rintro e Vb ⟨rfl, hcb⟩))
      have HSS : Hid (∀ b, (b = g ∨ ∃ i, i < 4 * N + 1 + 1 + 1 ∧ (A6 i).ownBlock = some b) → wA.heap.size ≤ b ∧ b < V6.heap.size) := fun b hb => by
        rcases hb with rfl | ⟨i, hi, e⟩
        · exact ⟨HSK.out.hg, HSK.out.bk.row.lt⟩
        · have h1 := (HSK.out.bk.a i hi).lt b e
          exact ⟨Nat.le_trans HSK.out.hA h1.1, h1.2⟩
      have hszVa : V18.heap.size ≤ Va.heap.size := FA.out.size
      have HLb := hidd (hcb.belowN (hlowS.out.trans (FA.out.mono hlowS.out.size)) (Nat.le_trans hlowS.out.size hszVa) (fun b hb => (HSS.out b hb).1))
      have HDb := hidd (((KeepsOthers.of_below FA.out).trans (hcb.keeps (fun b hlt hb => by
        rcases hb with rfl | ⟨i, hi, e⟩
        · obtain ⟨cs, hc, _⟩ := (HSK.out.bk.row.of_block (HB18.out.block _ HSK.out.bk.row.lt)).of_block (FA.out.block _ (HSK.out.bk.row.of_block (HB18.out.block _ HSK.out.bk.row.lt)).lt)
          exact ⟨_, hc, rfl⟩
        · exact own_isCells (Own.kept (Own.kept (HSK.out.bk.a i hi) HB18.out) FA.out) e))).same D _ HD18.out rfl)
      have HMb := hidd (own_chg (Own.kept HM18.out FA.out) hcb (fun b hb hs => by have h1 := HMB.out b hb; have h2 := (HSS.out b hs).2; omega))
      have HNb := hidd (own_chg (Own.kept HN18.out FA.out) hcb (fun b hb hs => by have h1 := HNB.out b hb; have h2 := (HSS.out b hs).2; omega))
      have HFb := hidd (own_chg (Own.kept HF18.out FA.out) hcb (fun b hb hs => by have h1 := HFB.out b hb; have h2 := (HSS.out b hs).2; omega))
      have HWb := hidd (own_chg (Own.kept HW18.out FA.out) hcb (fun b hb hs => by have h1 := HWB.out b hb; have h2 := (HSS.out b hs).2; omega))
      have hszb : V11.heap.size ≤ Vb.heap.size := Nat.le_trans (Nat.le_trans hszK hszVa) hcb.low.size
      clear HST HAP c9 c9a hlowS FA hcb HSS hszVa HM18 HN18 HF18 HW18 HD18 HB18 HSK
      -- the vocabulary
      have FK := HA0.out.fresh HLb.out
      obtain ⟨cy0, cy1⟩ := row2 FK.c8
      obtain ⟨cz0, cz1⟩ := row2 FK.b0
      have HEV := hidd (eqVocab_same FK.vb FK.vp FK.hb FK.hp)
      clear FK
      go_upto_region 44 with (go_at_call 20; (with_reducible refine HEV.out.mono ?_); rintro e Vc ⟨rfl, fc9⟩)
      have HLc := hidd (HLb.out.trans (fc9.mono HLb.out.size))
      have HDc := hidd ((KeepsOthers.of_below fc9).same D _ HDb.out rfl)
      have HMc := hidd (Own.kept HMb.out fc9)
      have HNc := hidd (Own.kept HNb.out fc9)
      have HFc := hidd (Own.kept HFb.out fc9)
      have HWc := hidd (Own.kept HWb.out fc9)
      have hszc : V11.heap.size ≤ Vc.heap.size := Nat.le_trans hszb fc9.size
      clear HEV cy0 cy1 cz0 cz1 fc9 HLb HDb HMb HNb HFb HWb hszb
      -- m is written over
      go_wp2
      go_loopw [39] (fun i wr => ∃ j : Nat, j ≤ l.length ∧ i = .int .i64 j ∧ Hid (Own wr V7.heap.size 3 1 (.slice ma l.length mc) l.length (fun q => if q < j then .int .i64 (-5) else .int .i64 (l.getD q 0))) ∧ Hid (Chg Vc wr (fun b => (Value.slice ma l.length mc).ownBlock = some b))) (fun i _ => l.length - (intOf i).toNat)
      case atStart => exact ⟨0, by omega, rfl, HMc.out.congr (fun q _ => (if_neg (by omega)).symm), Chg.of_below _ (Below.refl _ _)⟩
      case round =>
        obtain ⟨j, hj, rfl, HO, HC⟩ := hrel
        by_cases hlt : j < l.length
        · obtain ⟨gm, cm, em, _⟩ := own_some HO.out (by omega)
          cases em
          have i1 : (j : Int) < (l.length : Int) := by omega
          have i0 : (0 : Int) ≤ (j : Int) := by omega
          have fz := HO.out.froz
          have HO2 : Hid (Own (wr.setCell ⟨gm, j, none⟩ (.int .i64 (-5))) V7.heap.size 3 1 (.slice (some ⟨gm, 0, none⟩) l.length mc) l.length (fun q => if q < j + 1 then .int .i64 (-5) else .int .i64 (l.getD q 0))) := HO.out.write j (.int .i64 (-5)) _ (fun q _ => by
            by_cases e : q = j
            · rw [if_pos e, if_pos (by omega)]
            · rw [if_neg e]
              by_cases e2 : q < j
              · rw [if_pos e2, if_pos (by omega)]
              · rw [if_neg e2, if_neg (by omega)])
          have HC2 : Hid (Chg Vc (wr.setCell ⟨gm, j, none⟩ (.int .i64 (-5))) (fun b => (Value.slice (some ⟨gm, 0, none⟩) l.length mc).ownBlock = some b)) := HC.out.trans (Chg.of_set wr gm j _) (fun b _ e => by rw [e]; rfl)
          obtain ⟨b9, o9, e9, hc9⟩ := (Own.rda HO.out).one (by omega)
          cases e9
          have cg := hc9 j hlt
          rw [if_neg (by omega), Nat.zero_add] at cg
          clear hc9 HO HC
          go_wp2
          go_roundw
          case rel => exact ⟨j + 1, by omega, by go_num, HO2, HC2⟩
          case measure => simp [intOf]; omega
        · have i1 : ¬ (j : Int) < (l.length : Int) := by omega
          have t1 : decide ((j : Int) < (l.length : Int)) = false := by simp; omega
          obtain ⟨Vd, hVd⟩ : ∃ x, x = wr := ⟨_, rfl⟩
          subst hVd
          have hszd : Vc.heap.size ≤ Vd.heap.size := HC.out.low.size
          obtain ⟨v', w', hr, ho, happ⟩ := app_zeros HO.out (by omega) (by omega) 28
          obtain ⟨g', cap', rfl, hg1, hg2, hcl, hcm⟩ := own_some ho (by omega)
          have HR := hidd hr
          have hsze : Vd.heap.size ≤ w'.heap.size := happ.grown.size
          have HC3 := hidd (Chg.app_set (j := l.length) (x := .int .i64 (-7)) HC.out happ rfl)
          have cg : ∃ x, w'.cell? ⟨g', l.length, none⟩ = some x := by
            obtain ⟨b9, o9, e9, hc9⟩ := (Own.rda ho).one (by omega)
            cases e9
            have := hc9 l.length (by omega)
            rw [Nat.zero_add] at this
            exact ⟨_, this⟩
          obtain ⟨x9, cg⟩ := cg
          have fz := ho.froz
          have i2 : (0 : Int) ≤ (l.length : Int) := by omega
          have i3 : (l.length : Int) < ((l.length + 64 : Nat) : Int) := by omega
          have i4 : (l.length : Int) < (l.length : Int) + 64 := by omega
          clear hcl hcm
          clear happ ho HO HC hr
          go_upto_region 49 with (at_builtin; refine Lib.wpList_append_run _ rfl _ _ _ _ rfl _ _ rfl rfl _ _ HR.out ?_)
          go_upto_region 50 with fail
          obtain ⟨Ve, HVe⟩ : ∃ x, Hid (x = w'.setCell ⟨g', l.length, none⟩ (.int .i64 (-7))) := ⟨_, rfl⟩
          have hszE : Vc.heap.size ≤ Ve.heap.size := by rw [HVe.out]; simp; omega
          rw [← HVe.out] at HC3 ⊢
          have HDe := hidd ((HC3.out.keeps (fun b hlt hb => by
            rcases hb with q | q
            · exact own_isCells HMc.out q
            · omega)).same D _ HDc.out rfl)
          have HLe := hidd (HC3.out.belowN HLc.out HLc.out.size (fun b hb => by
            have h0 := HLc.out.size
            rcases hb with q | q
            · have h1 := HMB.out b q; omega
            · omega))
          have HNe := hidd (own_chg HNc.out HC3.out (fun b hb hs => by
            have h1 := HNB.out b hb
            have h2 := (HNc.out.lt b hb).2
            rcases hs with q | q
            · have h3 := HMB2.out b q; omega
            · omega))
          have HFe := hidd (own_chg HFc.out HC3.out (fun b hb hs => by
            have h1 := HFB.out b hb
            have h2 := (HFc.out.lt b hb).2
            rcases hs with q | q
            · have h3 := HMB2.out b q; omega
            · omega))
          have HWe := hidd (own_chg HWc.out HC3.out (fun b hb hs => by
            have h1 := HWB.out b hb
            have h2 := (HWc.out.lt b hb).2
            rcases hs with q | q
            · have h3 := HMB2.out b q; omega
            · omega))
          clear HVe HR cg fz i1 i2 i3 i4 t1 HC3 HDc HLc HNc HFc HWc
          -- the others are as they were
          have HE2 := hidd (eqInts_same (Own.rda HNe.out) (HLA0.out.fresh HLe.out) (fun _ _ => rfl))
          have HE3 : Hid (∀ z, Below Ve.heap.size Ve z → Calls Try.prog 9 #[.slice fa lf.length fc, .slice wa lf.length wc] z fun e w' => e = .returned (.bool true) ∧ Below z.heap.size z w') := fun z h => eqInts_same ((Own.rda HFe.out).fresh h) ((Own.rda HWe.out).fresh h) (fun _ _ => rfl)
          go_upto_region 52 with (first
            | (go_at_call 9; (with_reducible refine HE2.out.mono ?_); rintro e Vf ⟨rfl, f12⟩; have F12 := hidd f12; clear f12)
            | (go_at_call 9; (with_reducible refine (HE3.out _ F12.out).mono ?_); rintro e Vg ⟨rfl, f13⟩; have F13 := hidd (fresh_trans F12.out f13); clear f13))
          have HLg := hidd (HLe.out.trans (F13.out.mono HLe.out.size))
          have HDg := hidd ((KeepsOthers.of_below F13.out).same D _ HDe.out rfl)
          clear HE2 HE3 F12 F13 HNe HFe HWe HLe HDe
          -- n
          have FK := HA0.out.fresh HLg.out
          obtain ⟨cy0, cy1⟩ := row2 FK.c8
          have HCB : Hid (∀ z, Below Vg.heap.size Vg z → Calls Try.prog 6 #[.slice (some ⟨b1, o1, none⟩) n ck] z fun e w' => ∃ v, e = .returned v ∧ Own w' z.heap.size 5 1 v n (fun j => .int .u8 (X j)) ∧ Below z.heap.size z w') := fun z h => copyB_any (FK.hk.fresh h) (by omega)
          have HPE : Hid (∀ z ao ca, Below Vg.heap.size Vg z → RdA z ao 1 n ca (fun i => .int .u8 (X i)) → Calls Try.prog 7 #[.agg #[.slice xo d.nb xc, .slice yo d.np yc], .slice ao n ca] z fun e w'' => ∃ v, e = .returned (.tuple #[v, .int .i64 0]) ∧ OwnI w'' z.heap.size v l ∧ Below z.heap.size z w'') := fun z ao ca h hr => penc_any (FK.vb.fresh h) (FK.vp.fresh h) HB.out hr HXb.out hn 0 l HX.out
          clear FK
          have ew2 : True := trivial
          have ew : True := trivial
          have hd0 : Below Vg.heap.size Vg Vg.drew := (Below.refl _ _).drew
          have hSS : Hid (∀ w', Below Vg.heap.size Vg w' → Below Vg.heap.size Vg w' ∧ w'.cell? ⟨C8, 0, none⟩ = some (.slice xo d.nb xc) ∧ w'.cell? ⟨C8, 1, none⟩ = some (.slice yo d.np yc)) := fun w' h => ⟨h, fresh_cell h cy0, fresh_cell h cy1⟩
          have s0 := hSS.out _ hd0
          refine wp_region_held_drew (S := fun w' => Below Vg.heap.size Vg w' ∧ w'.cell? ⟨C8, 0, none⟩ = some (.slice xo d.nb xc) ∧ w'.cell? ⟨C8, 1, none⟩ = some (.slice yo d.np yc)) (by kernel_rfl) s0 (fun hHeld => ?_)
          refine wpAnyH_take (i := 0) (v := .agg #[.slice xo d.nb xc, .slice yo d.np yc]) rfl (by kernel_rfl) (by kernel_rfl) (by kernel_rfl) (fun _ _ _ h => h) (Or.inl ⟨by rfl, ?yz180⟩) s0 ?rz180
          case yz180 =>
            intro z hz
            obtain ⟨-, z0, z1⟩ := hz
            go_simp
            try first | with_reducible rfl | exact ew2 | exact ew
          refine wpAnyH_take (i := 1) (v := .slice (some ⟨b1, o1, none⟩) n ck) rfl (by kernel_rfl) (by kernel_rfl) (by kernel_rfl) (fun _ _ _ h => h) (Or.inl ⟨by rfl, ?yz181⟩) s0 ?rz181
          case yz181 =>
            intro z hz
            obtain ⟨-, z0, z1⟩ := hz
            go_simp
            try first | with_reducible rfl | exact ew2 | exact ew
          refine wpAnyH_ready (rs := [2]) (by kernel_rfl) (by simp) (AllReadyH.cons rfl (fun K hK => ?_) AllReadyH.nil)
          go_simp
          refine (HCB.out _ s0.1).mono ?_
          rintro e Y1 ⟨t1, rfl, ho1, g1⟩
          obtain ⟨a1, c1, rfl, r1⟩ := ho1.rd
          have s1 := hSS.out _ (fresh_trans s0.1 g1)
          refine hK.out _ _ s1 (fun hH1 => ?_)
          clear hK K
          refine wpAnyH_ready (rs := [3]) (by kernel_rfl) (by simp) (AllReadyH.cons rfl (fun K hK => ?_) AllReadyH.nil)
          go_simp
          refine (HPE.out _ _ _ s1.1 r1).mono ?_
          rintro e Vh ⟨vq, rfl, hn9, g2⟩
          have s2 := hSS.out _ (fresh_trans s1.1 g2)
          refine hK.out _ _ s2 (fun hH2 => ?_)
          clear hK K
          refine wpAnyH_take (i := 4) (v := .tuple #[vq, .int .i64 0]) rfl (by kernel_rfl) (by kernel_rfl) (by kernel_rfl) (fun _ _ _ h => h) (Or.inl ⟨by rfl, ?yz184⟩) s2 ?rz184
          case yz184 =>
            intro z hz
            obtain ⟨-, z0, z1⟩ := hz
            go_simp
            try first | with_reducible rfl | exact ew2 | exact ew
          refine wpAnyH_take (i := 5) (v := vq) rfl (by kernel_rfl) (by kernel_rfl) (by kernel_rfl) (fun _ _ _ h => h) (Or.inl ⟨by rfl, ?yz185⟩) s2 ?rz185
          case yz185 =>
            intro z hz
            obtain ⟨-, z0, z1⟩ := hz
            go_simp
            try first | with_reducible rfl | exact ew2 | exact ew
          refine wpAnyH_take (i := 6) (v := .int .i64 0) rfl (by kernel_rfl) (by kernel_rfl) (by kernel_rfl) (fun _ _ _ h => h) (Or.inl ⟨by rfl, ?yz186⟩) s2 ?rz186
          case yz186 =>
            intro z hz
            obtain ⟨-, z0, z1⟩ := hz
            go_simp
            try first | with_reducible rfl | exact ew2 | exact ew
          refine wpAnyH_take (i := 7) (v := vq) rfl (by kernel_rfl) (by kernel_rfl) (by kernel_rfl) (fun _ _ _ h => h) (Or.inl ⟨by rfl, ?yz187⟩) s2 ?rz187
          case yz187 =>
            intro z hz
            obtain ⟨-, z0, z1⟩ := hz
            go_simp
            try first | with_reducible rfl | exact ew2 | exact ew
          refine wpAnyH_take (i := 8) (v := .int .i64 0) rfl (by kernel_rfl) (by kernel_rfl) (by kernel_rfl) (fun _ _ _ h => h) (Or.inl ⟨by rfl, ?yz188⟩) s2 ?rz188
          case yz188 =>
            intro z hz
            obtain ⟨-, z0, z1⟩ := hz
            go_simp
            try first | with_reducible rfl | exact ew2 | exact ew
          refine wpAnyH_done (by kernel_rfl) ?_ _
          clear hHeld hH1 hH2
          have f9 := s2.1
          have HQh := hidd hn9
          have HLh := hidd (HLg.out.trans (f9.mono HLg.out.size))
          have HDh := hidd ((KeepsOthers.of_below f9).same D _ HDg.out rfl)
          clear ho1 r1 g1 hn9 g2 s0 s1 s2 hSS hd0 HCB HPE cy0 cy1 f9 HLg HDg
          obtain ⟨qa, qc, hvq, _⟩ := HQh.out.rd
          subst hvq
          -- again
          have FK := HA0.out.fresh HLh.out
          obtain ⟨cy0, cy1⟩ := row2 FK.c8
          have HDC := hidd (pdec_any FK.vb FK.vp (Own.rda HQh.out) (by omega) 0 tx HTX.out)
          clear FK
          go_upto_region 54 with (go_at_call 17; (with_reducible refine HDC.out.mono ?_); rintro e Vi ⟨vi, rfl, hvi, fi9⟩; (rw [HTXE.out] at hvi); have hvi2 := tx_own hvi; obtain ⟨ia, ic, rfl, _⟩ := hvi2.rd)
          have HIi := hidd hvi2
          have HQi := hidd (Own.kept HQh.out fi9)
          have HLi := hidd (HLh.out.trans (fi9.mono HLh.out.size))
          have HDi := hidd ((KeepsOthers.of_below fi9).same D _ HDh.out rfl)
          clear HDC cy0 cy1 fi9 hvi hvi2 HQh HLh HDh
          have FK := HA0.out.fresh HLi.out
          have HE1 := hidd (eqInts_same (Own.rda HQi.out) (HLA0.out.fresh HLi.out) (fun _ _ => rfl))
          have HE2 : Hid (∀ z, Below Vi.heap.size Vi z → Calls Try.prog 11 #[.slice ia n ic, .slice (some ⟨b1, o1, none⟩) n ck] z fun e w' => e = .returned (.bool true) ∧ Below z.heap.size z w') := fun z h => eqBytes_same ((Own.rda HIi.out).fresh h) (FK.hk.fresh h) (fun _ _ => rfl)
          have HB1 : Hid (∀ z, Below Vi.heap.size Vi z → z.rowIs B1 4 1 (fun _ => .bool false)) := fun z h => FK.b1.of_block (h.block _ FK.b1.lt)
          clear FK
          go_wp2_with (first
            | (go_at_call 9; (with_reducible refine HE1.out.mono ?_); rintro e Vj ⟨rfl, f12⟩; have F12 := hidd f12; clear f12)
            | (go_at_call 11; (with_reducible refine (HE2.out _ F12.out).mono ?_); rintro e Vk ⟨rfl, f13⟩; have F13 := hidd (fresh_trans F12.out f13); obtain ⟨cB, fB⟩ := row1 (HB1.out _ F13.out); clear f13))
          have HDk := (KeepsOthers.setCell Vk ⟨B1, 0, none⟩ (.bool true)).same D _ ((KeepsOthers.of_below F13.out).same D _ HDi.out rfl) rfl
          have hrow := row1_set (HB1.out _ F13.out) (.bool true)
          have hbel := HFA0.out.trans ((HLi.out.trans (F13.out.mono HLi.out.size)).mono HFA0.out.size)
          have hwD : w.heap.size ≤ D := Nat.le_trans (Nat.le_trans HFA0.out.size (Nat.le_trans HZA.out h67)) hD
          refine ⟨by simp, .inl ⟨_, _, rfl, run_takeDeferred HDk, ?_⟩⟩
          exact ⟨.bool true, results_bool (fn := Try.f4) rfl _ _ B1 true rfl ((row_put HDk rfl hrow).cell (i := 0) (by decide)), rfl, below_put HDk hwD (hbel.setCell (p := ⟨B1, 0, none⟩) (Nat.le_of_lt hb01.2.2) (.bool true))⟩
    · have t9 : decide (0 < n) = false := by simp; omega
      have t10 : decide ((0 : Int) < (n : Int)) = false := by simp; omega
      clear hn0
      go_upto_region 41 with fail
      clear t9 t10
      -- the book
      have St := HSK.out.fresh HB14.out
      have HST := hidd (still_st St (by omega))
      have HAP : Hid (∀ z, Below V14.heap.size V14 z → Calls Try.prog 19 #[.pointer (some ⟨g, 0, none⟩)] z fun e w' => e = .returned (.bool true) ∧ Chg z w' (fun b => b = g ∨ ∃ i, i < 4 * N + 1 + 1 + 1 ∧ (A6 i).ownBlock = some b)) := fun z h => apart_st (St.fresh h) (by omega) HLE.out
      have c9 := (row1 St.c9).1
      have hlowS := hidd St.low
      clear St
      go_upto_region 42 with (first
        | (go_at_call 18; (with_reducible refine HST.out.mono ?_); rintro e Va ⟨rfl, fa9⟩; have c9a := fresh_cell fa9 c9; have FA := hidd fa9; clear fa9)
        | (go_at_call 19; (with_reducible refine (HAP.out _ FA.out).mono ?_); rintro e Vb ⟨rfl, hcb⟩))
      have HSS : Hid (∀ b, (b = g ∨ ∃ i, i < 4 * N + 1 + 1 + 1 ∧ (A6 i).ownBlock = some b) → wA.heap.size ≤ b ∧ b < V6.heap.size) := fun b hb => by
        rcases hb with rfl | ⟨i, hi, e⟩
        · exact ⟨HSK.out.hg, HSK.out.bk.row.lt⟩
        · have h1 := (HSK.out.bk.a i hi).lt b e
          exact ⟨Nat.le_trans HSK.out.hA h1.1, h1.2⟩
      have hszVa : V14.heap.size ≤ Va.heap.size := FA.out.size
      have HLb := hidd (hcb.belowN (hlowS.out.trans (FA.out.mono hlowS.out.size)) (Nat.le_trans hlowS.out.size hszVa) (fun b hb => (HSS.out b hb).1))
      have HDb := hidd (((KeepsOthers.of_below FA.out).trans (hcb.keeps (fun b hlt hb => by
        rcases hb with rfl | ⟨i, hi, e⟩
        · obtain ⟨cs, hc, _⟩ := (HSK.out.bk.row.of_block (HB14.out.block _ HSK.out.bk.row.lt)).of_block (FA.out.block _ (HSK.out.bk.row.of_block (HB14.out.block _ HSK.out.bk.row.lt)).lt)
          exact ⟨_, hc, rfl⟩
        · exact own_isCells (Own.kept (Own.kept (HSK.out.bk.a i hi) HB14.out) FA.out) e))).same D _ HD14.out rfl)
      have HMb := hidd (own_chg (Own.kept HM14.out FA.out) hcb (fun b hb hs => by have h1 := HMB.out b hb; have h2 := (HSS.out b hs).2; omega))
      have HNb := hidd (own_chg (Own.kept HN14.out FA.out) hcb (fun b hb hs => by have h1 := HNB.out b hb; have h2 := (HSS.out b hs).2; omega))
      have HFb := hidd (own_chg (Own.kept HF14.out FA.out) hcb (fun b hb hs => by have h1 := HFB.out b hb; have h2 := (HSS.out b hs).2; omega))
      have HWb := hidd (own_chg (Own.kept HW14.out FA.out) hcb (fun b hb hs => by have h1 := HWB.out b hb; have h2 := (HSS.out b hs).2; omega))
      have hszb : V11.heap.size ≤ Vb.heap.size := Nat.le_trans (Nat.le_trans hszK hszVa) hcb.low.size
      clear HST HAP c9 c9a hlowS FA hcb HSS hszVa HM14 HN14 HF14 HW14 HD14 HB14 HSK
      -- the vocabulary
      have FK := HA0.out.fresh HLb.out
      obtain ⟨cy0, cy1⟩ := row2 FK.c8
      obtain ⟨cz0, cz1⟩ := row2 FK.b0
      have HEV := hidd (eqVocab_same FK.vb FK.vp FK.hb FK.hp)
      clear FK
      go_upto_region 44 with (go_at_call 20; (with_reducible refine HEV.out.mono ?_); rintro e Vc ⟨rfl, fc9⟩)
      have HLc := hidd (HLb.out.trans (fc9.mono HLb.out.size))
      have HDc := hidd ((KeepsOthers.of_below fc9).same D _ HDb.out rfl)
      have HMc := hidd (Own.kept HMb.out fc9)
      have HNc := hidd (Own.kept HNb.out fc9)
      have HFc := hidd (Own.kept HFb.out fc9)
      have HWc := hidd (Own.kept HWb.out fc9)
      have hszc : V11.heap.size ≤ Vc.heap.size := Nat.le_trans hszb fc9.size
      clear HEV cy0 cy1 cz0 cz1 fc9 HLb HDb HMb HNb HFb HWb hszb
      -- m is written over
      go_wp2
      go_loopw [39] (fun i wr => ∃ j : Nat, j ≤ l.length ∧ i = .int .i64 j ∧ Hid (Own wr V7.heap.size 3 1 (.slice ma l.length mc) l.length (fun q => if q < j then .int .i64 (-5) else .int .i64 (l.getD q 0))) ∧ Hid (Chg Vc wr (fun b => (Value.slice ma l.length mc).ownBlock = some b))) (fun i _ => l.length - (intOf i).toNat)
      case atStart => exact ⟨0, by omega, rfl, HMc.out.congr (fun q _ => (if_neg (by omega)).symm), Chg.of_below _ (Below.refl _ _)⟩
      case round =>
        obtain ⟨j, hj, rfl, HO, HC⟩ := hrel
        by_cases hlt : j < l.length
        · obtain ⟨gm, cm, em, _⟩ := own_some HO.out (by omega)
          cases em
          have i1 : (j : Int) < (l.length : Int) := by omega
          have i0 : (0 : Int) ≤ (j : Int) := by omega
          have fz := HO.out.froz
          have HO2 : Hid (Own (wr.setCell ⟨gm, j, none⟩ (.int .i64 (-5))) V7.heap.size 3 1 (.slice (some ⟨gm, 0, none⟩) l.length mc) l.length (fun q => if q < j + 1 then .int .i64 (-5) else .int .i64 (l.getD q 0))) := HO.out.write j (.int .i64 (-5)) _ (fun q _ => by
            by_cases e : q = j
            · rw [if_pos e, if_pos (by omega)]
            · rw [if_neg e]
              by_cases e2 : q < j
              · rw [if_pos e2, if_pos (by omega)]
              · rw [if_neg e2, if_neg (by omega)])
          have HC2 : Hid (Chg Vc (wr.setCell ⟨gm, j, none⟩ (.int .i64 (-5))) (fun b => (Value.slice (some ⟨gm, 0, none⟩) l.length mc).ownBlock = some b)) := HC.out.trans (Chg.of_set wr gm j _) (fun b _ e => by rw [e]; rfl)
          obtain ⟨b9, o9, e9, hc9⟩ := (Own.rda HO.out).one (by omega)
          cases e9
          have cg := hc9 j hlt
          rw [if_neg (by omega), Nat.zero_add] at cg
          clear hc9 HO HC
          go_wp2
          go_roundw
          case rel => exact ⟨j + 1, by omega, by go_num, HO2, HC2⟩
          case measure => simp [intOf]; omega
        · have i1 : ¬ (j : Int) < (l.length : Int) := by omega
          have t1 : decide ((j : Int) < (l.length : Int)) = false := by simp; omega
          obtain ⟨Vd, hVd⟩ : ∃ x, x = wr := ⟨_, rfl⟩
          subst hVd
          have hszd : Vc.heap.size ≤ Vd.heap.size := HC.out.low.size
          obtain ⟨v', w', hr, ho, happ⟩ := app_zeros HO.out (by omega) (by omega) 28
          obtain ⟨g', cap', rfl, hg1, hg2, hcl, hcm⟩ := own_some ho (by omega)
          have HR := hidd hr
          have hsze : Vd.heap.size ≤ w'.heap.size := happ.grown.size
          have HC3 := hidd (Chg.app_set (j := l.length) (x := .int .i64 (-7)) HC.out happ rfl)
          have cg : ∃ x, w'.cell? ⟨g', l.length, none⟩ = some x := by
            obtain ⟨b9, o9, e9, hc9⟩ := (Own.rda ho).one (by omega)
            cases e9
            have := hc9 l.length (by omega)
            rw [Nat.zero_add] at this
            exact ⟨_, this⟩
          obtain ⟨x9, cg⟩ := cg
          have fz := ho.froz
          have i2 : (0 : Int) ≤ (l.length : Int) := by omega
          have i3 : (l.length : Int) < ((l.length + 64 : Nat) : Int) := by omega
          have i4 : (l.length : Int) < (l.length : Int) + 64 := by omega
          clear hcl hcm
          clear happ ho HO HC hr
          go_upto_region 49 with (at_builtin; refine Lib.wpList_append_run _ rfl _ _ _ _ rfl _ _ rfl rfl _ _ HR.out ?_)
          go_upto_region 50 with fail
          obtain ⟨Ve, HVe⟩ : ∃ x, Hid (x = w'.setCell ⟨g', l.length, none⟩ (.int .i64 (-7))) := ⟨_, rfl⟩
          have hszE : Vc.heap.size ≤ Ve.heap.size := by rw [HVe.out]; simp; omega
          rw [← HVe.out] at HC3 ⊢
          have HDe := hidd ((HC3.out.keeps (fun b hlt hb => by
            rcases hb with q | q
            · exact own_isCells HMc.out q
            · omega)).same D _ HDc.out rfl)
          have HLe := hidd (HC3.out.belowN HLc.out HLc.out.size (fun b hb => by
            have h0 := HLc.out.size
            rcases hb with q | q
            · have h1 := HMB.out b q; omega
            · omega))
          have HNe := hidd (own_chg HNc.out HC3.out (fun b hb hs => by
            have h1 := HNB.out b hb
            have h2 := (HNc.out.lt b hb).2
            rcases hs with q | q
            · have h3 := HMB2.out b q; omega
            · omega))
          have HFe := hidd (own_chg HFc.out HC3.out (fun b hb hs => by
            have h1 := HFB.out b hb
            have h2 := (HFc.out.lt b hb).2
            rcases hs with q | q
            · have h3 := HMB2.out b q; omega
            · omega))
          have HWe := hidd (own_chg HWc.out HC3.out (fun b hb hs => by
            have h1 := HWB.out b hb
            have h2 := (HWc.out.lt b hb).2
            rcases hs with q | q
            · have h3 := HMB2.out b q; omega
            · omega))
          clear HVe HR cg fz i1 i2 i3 i4 t1 HC3 HDc HLc HNc HFc HWc
          -- the others are as they were
          have HE2 := hidd (eqInts_same (Own.rda HNe.out) (HLA0.out.fresh HLe.out) (fun _ _ => rfl))
          have HE3 : Hid (∀ z, Below Ve.heap.size Ve z → Calls Try.prog 9 #[.slice fa lf.length fc, .slice wa lf.length wc] z fun e w' => e = .returned (.bool true) ∧ Below z.heap.size z w') := fun z h => eqInts_same ((Own.rda HFe.out).fresh h) ((Own.rda HWe.out).fresh h) (fun _ _ => rfl)
          go_upto_region 52 with (first
            | (go_at_call 9; (with_reducible refine HE2.out.mono ?_); rintro e Vf ⟨rfl, f12⟩; have F12 := hidd f12; clear f12)
            | (go_at_call 9; (with_reducible refine (HE3.out _ F12.out).mono ?_); rintro e Vg ⟨rfl, f13⟩; have F13 := hidd (fresh_trans F12.out f13); clear f13))
          have HLg := hidd (HLe.out.trans (F13.out.mono HLe.out.size))
          have HDg := hidd ((KeepsOthers.of_below F13.out).same D _ HDe.out rfl)
          clear HE2 HE3 F12 F13 HNe HFe HWe HLe HDe
          -- n
          have FK := HA0.out.fresh HLg.out
          obtain ⟨cy0, cy1⟩ := row2 FK.c8
          have HCB : Hid (∀ z, Below Vg.heap.size Vg z → Calls Try.prog 6 #[.slice ko n ck] z fun e w' => ∃ v, e = .returned v ∧ Own w' z.heap.size 5 1 v n (fun j => .int .u8 (X j)) ∧ Below z.heap.size z w') := fun z h => copyB_any (FK.hk.fresh h) (by omega)
          have HPE : Hid (∀ z ao ca, Below Vg.heap.size Vg z → RdA z ao 1 n ca (fun i => .int .u8 (X i)) → Calls Try.prog 7 #[.agg #[.slice xo d.nb xc, .slice yo d.np yc], .slice ao n ca] z fun e w'' => ∃ v, e = .returned (.tuple #[v, .int .i64 0]) ∧ OwnI w'' z.heap.size v l ∧ Below z.heap.size z w'') := fun z ao ca h hr => penc_any (FK.vb.fresh h) (FK.vp.fresh h) HB.out hr HXb.out hn 0 l HX.out
          clear FK
          have ew2 : True := trivial
          have ew : True := trivial
          have hd0 : Below Vg.heap.size Vg Vg.drew := (Below.refl _ _).drew
          have hSS : Hid (∀ w', Below Vg.heap.size Vg w' → Below Vg.heap.size Vg w' ∧ w'.cell? ⟨C8, 0, none⟩ = some (.slice xo d.nb xc) ∧ w'.cell? ⟨C8, 1, none⟩ = some (.slice yo d.np yc)) := fun w' h => ⟨h, fresh_cell h cy0, fresh_cell h cy1⟩
          have s0 := hSS.out _ hd0
          refine wp_region_held_drew (S := fun w' => Below Vg.heap.size Vg w' ∧ w'.cell? ⟨C8, 0, none⟩ = some (.slice xo d.nb xc) ∧ w'.cell? ⟨C8, 1, none⟩ = some (.slice yo d.np yc)) (by kernel_rfl) s0 (fun hHeld => ?_)
          refine wpAnyH_take (i := 0) (v := .agg #[.slice xo d.nb xc, .slice yo d.np yc]) rfl (by kernel_rfl) (by kernel_rfl) (by kernel_rfl) (fun _ _ _ h => h) (Or.inl ⟨by rfl, ?yz140⟩) s0 ?rz140
          case yz140 =>
            intro z hz
            obtain ⟨-, z0, z1⟩ := hz
            go_simp
            try first | with_reducible rfl | exact ew2 | exact ew
          refine wpAnyH_take (i := 1) (v := .slice ko n ck) rfl (by kernel_rfl) (by kernel_rfl) (by kernel_rfl) (fun _ _ _ h => h) (Or.inl ⟨by rfl, ?yz141⟩) s0 ?rz141
          case yz141 =>
            intro z hz
            obtain ⟨-, z0, z1⟩ := hz
            go_simp
            try first | with_reducible rfl | exact ew2 | exact ew
          refine wpAnyH_ready (rs := [2]) (by kernel_rfl) (by simp) (AllReadyH.cons rfl (fun K hK => ?_) AllReadyH.nil)
          go_simp
          refine (HCB.out _ s0.1).mono ?_
          rintro e Y1 ⟨t1, rfl, ho1, g1⟩
          obtain ⟨a1, c1, rfl, r1⟩ := ho1.rd
          have s1 := hSS.out _ (fresh_trans s0.1 g1)
          refine hK.out _ _ s1 (fun hH1 => ?_)
          clear hK K
          refine wpAnyH_ready (rs := [3]) (by kernel_rfl) (by simp) (AllReadyH.cons rfl (fun K hK => ?_) AllReadyH.nil)
          go_simp
          refine (HPE.out _ _ _ s1.1 r1).mono ?_
          rintro e Vh ⟨vq, rfl, hn9, g2⟩
          have s2 := hSS.out _ (fresh_trans s1.1 g2)
          refine hK.out _ _ s2 (fun hH2 => ?_)
          clear hK K
          refine wpAnyH_take (i := 4) (v := .tuple #[vq, .int .i64 0]) rfl (by kernel_rfl) (by kernel_rfl) (by kernel_rfl) (fun _ _ _ h => h) (Or.inl ⟨by rfl, ?yz144⟩) s2 ?rz144
          case yz144 =>
            intro z hz
            obtain ⟨-, z0, z1⟩ := hz
            go_simp
            try first | with_reducible rfl | exact ew2 | exact ew
          refine wpAnyH_take (i := 5) (v := vq) rfl (by kernel_rfl) (by kernel_rfl) (by kernel_rfl) (fun _ _ _ h => h) (Or.inl ⟨by rfl, ?yz145⟩) s2 ?rz145
          case yz145 =>
            intro z hz
            obtain ⟨-, z0, z1⟩ := hz
            go_simp
            try first | with_reducible rfl | exact ew2 | exact ew
          refine wpAnyH_take (i := 6) (v := .int .i64 0) rfl (by kernel_rfl) (by kernel_rfl) (by kernel_rfl) (fun _ _ _ h => h) (Or.inl ⟨by rfl, ?yz146⟩) s2 ?rz146
          case yz146 =>
            intro z hz
            obtain ⟨-, z0, z1⟩ := hz
            go_simp
            try first | with_reducible rfl | exact ew2 | exact ew
          refine wpAnyH_take (i := 7) (v := vq) rfl (by kernel_rfl) (by kernel_rfl) (by kernel_rfl) (fun _ _ _ h => h) (Or.inl ⟨by rfl, ?yz147⟩) s2 ?rz147
          case yz147 =>
            intro z hz
            obtain ⟨-, z0, z1⟩ := hz
            go_simp
            try first | with_reducible rfl | exact ew2 | exact ew
          refine wpAnyH_take (i := 8) (v := .int .i64 0) rfl (by kernel_rfl) (by kernel_rfl) (by kernel_rfl) (fun _ _ _ h => h) (Or.inl ⟨by rfl, ?yz148⟩) s2 ?rz148
          case yz148 =>
            intro z hz
            obtain ⟨-, z0, z1⟩ := hz
            go_simp
            try first | with_reducible rfl | exact ew2 | exact ew
          refine wpAnyH_done (by kernel_rfl) ?_ _
          clear hHeld hH1 hH2
          have f9 := s2.1
          have HQh := hidd hn9
          have HLh := hidd (HLg.out.trans (f9.mono HLg.out.size))
          have HDh := hidd ((KeepsOthers.of_below f9).same D _ HDg.out rfl)
          clear ho1 r1 g1 hn9 g2 s0 s1 s2 hSS hd0 HCB HPE cy0 cy1 f9 HLg HDg
          obtain ⟨qa, qc, hvq, _⟩ := HQh.out.rd
          subst hvq
          -- again
          have FK := HA0.out.fresh HLh.out
          obtain ⟨cy0, cy1⟩ := row2 FK.c8
          have HDC := hidd (pdec_any FK.vb FK.vp (Own.rda HQh.out) (by omega) 0 tx HTX.out)
          clear FK
          go_upto_region 54 with (go_at_call 17; (with_reducible refine HDC.out.mono ?_); rintro e Vi ⟨vi, rfl, hvi, fi9⟩; (rw [HTXE.out] at hvi); have hvi2 := tx_own hvi; obtain ⟨ia, ic, rfl, _⟩ := hvi2.rd)
          have HIi := hidd hvi2
          have HQi := hidd (Own.kept HQh.out fi9)
          have HLi := hidd (HLh.out.trans (fi9.mono HLh.out.size))
          have HDi := hidd ((KeepsOthers.of_below fi9).same D _ HDh.out rfl)
          clear HDC cy0 cy1 fi9 hvi hvi2 HQh HLh HDh
          have FK := HA0.out.fresh HLi.out
          have HE1 := hidd (eqInts_same (Own.rda HQi.out) (HLA0.out.fresh HLi.out) (fun _ _ => rfl))
          have HE2 : Hid (∀ z, Below Vi.heap.size Vi z → Calls Try.prog 11 #[.slice ia n ic, .slice ko n ck] z fun e w' => e = .returned (.bool true) ∧ Below z.heap.size z w') := fun z h => eqBytes_same ((Own.rda HIi.out).fresh h) (FK.hk.fresh h) (fun _ _ => rfl)
          have HB1 : Hid (∀ z, Below Vi.heap.size Vi z → z.rowIs B1 4 1 (fun _ => .bool false)) := fun z h => FK.b1.of_block (h.block _ FK.b1.lt)
          clear FK
          go_wp2_with (first
            | (go_at_call 9; (with_reducible refine HE1.out.mono ?_); rintro e Vj ⟨rfl, f12⟩; have F12 := hidd f12; clear f12)
            | (go_at_call 11; (with_reducible refine (HE2.out _ F12.out).mono ?_); rintro e Vk ⟨rfl, f13⟩; have F13 := hidd (fresh_trans F12.out f13); obtain ⟨cB, fB⟩ := row1 (HB1.out _ F13.out); clear f13))
          have HDk := (KeepsOthers.setCell Vk ⟨B1, 0, none⟩ (.bool true)).same D _ ((KeepsOthers.of_below F13.out).same D _ HDi.out rfl) rfl
          have hrow := row1_set (HB1.out _ F13.out) (.bool true)
          have hbel := HFA0.out.trans ((HLi.out.trans (F13.out.mono HLi.out.size)).mono HFA0.out.size)
          have hwD : w.heap.size ≤ D := Nat.le_trans (Nat.le_trans HFA0.out.size (Nat.le_trans HZA.out h67)) hD
          refine ⟨by simp, .inl ⟨_, _, rfl, run_takeDeferred HDk, ?_⟩⟩
          exact ⟨.bool true, results_bool (fn := Try.f4) rfl _ _ B1 true rfl ((row_put HDk rfl hrow).cell (i := 0) (by decide)), rfl, below_put HDk hwD (hbel.setCell (p := ⟨B1, 0, none⟩) (Nat.le_of_lt hb01.2.2) (.bool true))⟩
end Go.Proofs.Yteiocgciblogdab
