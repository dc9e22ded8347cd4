import Derived.Test.YtbpldnlafilbbabNgRc
import Derived.RangeFuncCalls
namespace Go.Proofs.Ytbpldnlafilbbab
open Go.RowKit Go.Shelf
attribute [local go_sem] Oper.semAt_some
/-! One iterator, gone through three times. -/
set_option maxRecDepth 100000 in
set_option maxHeartbeats 1600000 in
theorem iter_nil (l Bn : Nat) (J Jx : List Nat → World → Prop) (W : World) (hBn : W.cell? ⟨Bn, 0, none⟩ = some (.pointer none)) (h0 : J [] W) :
    CallsIn Fence.wide 4 Try.prog 32 #[.func (.yield l) #[] #[], .pointer (some ⟨Bn, 0, none⟩)] W fun e W' => (∃ v, e = .returned v) ∧ ((∃ ys, ys = [] ∧ J ys W') ∨ (∃ pre, pre <+: ([] : List Nat) ∧ Jx pre W')) := by
  refine callsIn_of_wp Try.func32 rfl trivial ?_ rfl
  simp only [Try.ntmps32, List.size_toArray, List.length_cons, List.length_nil, Nat.reduceAdd, Nat.reduceSub, Array.replicate_succ, Array.replicate_zero, List.push_toArray, List.append_toArray, List.nil_append, List.cons_append]
  have HEN := hidd (endRun_nil W)
  have H0 := hidd h0
  clear h0
  gi_wp2_with (refine ⟨trivial, ?_⟩; gi_at_call 33; refine (callsIn_wide.2 HEN.out).mono ?_; rintro e' W1 ⟨rfl, f1⟩; rw [f1]; clear f1 W1)
  gi_wp2
  refine bodyPost_ret (results_none rfl _ _ _) rfl ?_
  exact ⟨⟨_, rfl⟩, .inl ⟨_, rfl, H0.out⟩⟩
/-- an index whose places are L: U are its blocks, D those of its places -/
structure PS (w : World) (px : Option Addr) (L : List Nat) (D U : Nat → Prop) : Prop where
  low : ∀ b, U b → b < w.heap.size
  sub : ∀ b, D b → U b
  seq : ∀ (w' : World) (Bn : Nat), Chg w w' (fun b => ¬ U b) → Bn < w'.heap.size → w'.cell? ⟨Bn, 0, none⟩ = some (.pointer px) → SeqStopsK Fence.wide 4 Try.prog 32 #[.pointer (some ⟨Bn, 0, none⟩)] encQ (KpD D) (fun ys => ys = L) (fun ys => ys <+: L) L.length w'
theorem Ix.subD {w : World} {X : Nat} {S : Nat → Prop} {most n : Nat} {tx : Nat → Int} {A : Nat → Nat} (h : Idx w X S most n tx A) : ∀ b, plD A n b → S b := by
  obtain ⟨M, Lb, tv, pv, hix⟩ := h.ex
  rintro b ⟨q, h1, h2, rfl⟩
  exact hix.sA q h1 h2
theorem Idx.ps {w : World} {X : Nat} {S : Nat → Prop} {most n : Nat} {tx : Nat → Int} {A : Nat → Nat} (h : Idx w X S most n tx A) : PS w (some ⟨X, 0, none⟩) (plL tx most n) (plD A n) S :=
  ⟨h.low, Ix.subD h, fun w' Bn c h1 h2 => iter_stops Bn X S most n tx A _ rfl w' h1 h2 (h.chg c (fun _ hb hn => hn hb))⟩
theorem nil_ps (w : World) : PS w none [] (fun _ => False) (fun _ => False) :=
  ⟨fun _ h => h.elim, fun _ h => h.elim, fun _ Bn _ h1 h2 l J Jx W hW _ _ _ h0 => iter_nil l Bn J Jx W ((hW.cell (p := ⟨Bn, 0, none⟩) h1).trans h2) h0⟩
/-- what a round keeps -/
structure TR (W0 : World) (br : Nat) (pre : List Nat) (W : World) : Prop where
  ex : ∃ v, Boxed W br 22 v ∧ Own W W0.heap.size 3 1 v pre.length (qF pre)
  chg : Chg W0 W (fun b => b = br)
theorem Chg.from_ {W0 : World} {T : Nat → Prop} : OwnFrom W0.heap.size (fun (_ : Unit) W => Chg W0 W T) := by
  rintro u X Y row h hg hr
  refine ⟨⟨hg.os.trans h.low.os, hg.tape.trans h.low.tape, hg.output.trans h.low.output, Nat.le_trans h.low.size hg.size, fun k hk => absurd hk (by omega)⟩, fun b hb hT => ?_⟩
  refine (hg.block b (Nat.lt_of_lt_of_le hb h.size) (fun e => ?_)).trans (h.block b hb hT)
  have := (hr b e.symm).1
  omega
theorem TR.from_ {W0 : World} (br : Nat) (pre : List Nat) : OwnFrom W0.heap.size (fun (_ : Unit) W => TR W0 br pre W) := by
  rintro u X Y row ⟨⟨v, h1, h2⟩, h3⟩ hg hr
  exact ⟨⟨v, boxed_own _ _ (fun (_ : Unit) => v) () X Y row h1 hg (fun r e => (hr r e).2), own_from _ _ _ _ _ _ _ () X Y row h2 hg hr⟩, Chg.from_ () X Y row h3 hg hr⟩
set_option maxRecDepth 100000 in
set_option maxHeartbeats 8000000 in
theorem through_any {w : World} (px : Option Addr) (bo : Option Addr) (nb cb : Nat) (nc : Int) (L1 L3 : List Nat) (S : Nat → Prop) (hS : ∀ b, S b → b < w.heap.size) (hL1 : L1.length ≤ 17592186043904) (hL3 : L3.length ≤ 17592186043904)
    (hAp : ∀ w1, Below w.heap.size w w1 → Calls Try.prog 8 #[.pointer px, .slice bo nb cb] w1 fun e w2 => e = .returned (.tuple #[]) ∧ Chg w1 w2 S ∧ ∃ D1 U, PS w2 px L1 D1 U ∧ (∀ b, U b → S b ∨ w1.heap.size ≤ b) ∧ ∀ w3, Chg w2 w3 (fun b => ¬ U b) → Calls Try.prog 18 #[.pointer px, .int .i64 nc] w3 fun e w4 => e = .returned (.tuple #[]) ∧ Chg w3 w4 U ∧ ∃ D3, PS w4 px L3 D3 U) :
    Calls Try.prog 10 #[.pointer px, .slice bo nb cb, .int .i64 nc] w fun e w' => ∃ u1 c1 u2 c2 u3 c3, e = .returned (.tuple #[.slice u1 L1.length c1, .slice u2 (pkQ 2 L1).length c2, .slice u3 L3.length c3]) ∧ Own w' w.heap.size 3 1 (.slice u1 L1.length c1) L1.length (qF L1) ∧ Own w' w.heap.size 3 1 (.slice u2 (pkQ 2 L1).length c2) (pkQ 2 L1).length (qF (pkQ 2 L1)) ∧ Own w' w.heap.size 3 1 (.slice u3 L3.length c3) L3.length (qF L3) ∧ Chg w w' S := by
  refine (callsIn_wide (n := 5)).1 ?_
  refine callsIn_of_wp_marks Try.func10 rfl trivial ?_ rfl
  simp only [Try.ntmps10, List.size_toArray, List.length_cons, List.length_nil, Nat.reduceAdd, Nat.reduceSub, Array.replicate_succ, Array.replicate_zero, List.push_toArray, List.append_toArray, List.nil_append, List.cons_append]
  have HRK := hidd (placesF_any w px)
  have hfn := fn_nil
  have HAP := hidd hAp
  have HSL := hidd hS
  clear hAp hS
  obtain ⟨Bn, HBn⟩ : ∃ Bn, Hid (Bn = w.heap.size) := ⟨_, rfl⟩
  rw [← HBn.out] at HRK
  gi_wp2_with (refine ⟨trivial, ?_⟩; gi_at_call 26; refine (callsIn_wide.2 HRK.out).mono ?_; rintro e W0 ⟨rfl, hcl, hsz, f0⟩; have HCL := hidd hcl; have HF0 := hidd f0; have HSZ := hidd hsz; clear hcl f0 hsz HRK)
  -- PART
  obtain ⟨b1, HB1⟩ : ∃ b, Hid (b = W0.heap.size) := ⟨_, rfl⟩
  obtain ⟨b2, HB2⟩ : ∃ b, Hid (b = W0.heap.size + 1) := ⟨_, rfl⟩
  obtain ⟨b3, HB3⟩ : ∃ b, Hid (b = W0.heap.size + 1 + 1) := ⟨_, rfl⟩
  obtain ⟨wA, HWA⟩ : ∃ wA, Hid (wA = ((W0.alloc (.cells #[.slice none 0 0] 22)).alloc (.cells #[.slice none 0 0] 22)).alloc (.cells #[.slice none 0 0] 22)) := ⟨_, rfl⟩
  have hsA : wA.heap.size = W0.heap.size + 3 := by rw [HWA.out]; simp
  have HA0 : Hid (Below W0.heap.size W0 wA) := by rw [HWA.out]; exact (((Below.refl _ W0).alloc (Nat.le_refl _) _).alloc (by simp) _).alloc (by simp; omega) _
  have hW0 : w.heap.size + 1 = W0.heap.size := by have := HSZ.out; have := HBn.out; omega
  have HAw : Hid (Below w.heap.size w wA) := by
    have f := HF0.out
    rw [HBn.out] at f
    exact f.trans (HA0.out.mono (by omega))
  have X1 : Boxed wA b1 22 (.slice none 0 0) := by rw [HWA.out, HB1.out]; exact ((Boxed.new W0 22 (.slice none 0 0)).alloc _).alloc _
  have X2 : Boxed wA b2 22 (.slice none 0 0) := by
    have := (Boxed.new (W0.alloc (.cells #[.slice none 0 0] 22)) 22 (.slice none 0 0)).alloc (.cells #[.slice none 0 0] 22)
    rw [World.size_alloc] at this
    rw [HWA.out, HB2.out]; exact this
  have X3 : Boxed wA b3 22 (.slice none 0 0) := by
    have := Boxed.new ((W0.alloc (.cells #[.slice none 0 0] 22)).alloc (.cells #[.slice none 0 0] 22)) 22 (.slice none 0 0)
    rw [World.size_alloc, World.size_alloc] at this
    rw [HWA.out, HB3.out]; exact this
  have hb123 : w.heap.size < b1 ∧ b1 < b2 ∧ b2 < b3 ∧ b3 < wA.heap.size := by have := HB1.out; have := HB2.out; have := HB3.out; omega
  have HCA : Hid (wA.cell? ⟨Bn, 0, none⟩ = some (.pointer px)) := fresh_cell HA0.out HCL.out
  have HX1 := hidd X1
  have HX2 := hidd X2
  have HX3 := hidd X3
  have HCALL := hidd (HAP.out wA HAw.out)
  rw [← HWA.out, ← HB3.out, ← HB2.out, ← HB1.out]
  clear HWA HB1 HB2 HB3 HA0 HAP HF0 HCL HSZ X1 X2 X3 hfn hsA
  gi_wp2_with (refine ⟨trivial, ?_⟩; gi_at_call 8; refine (callsIn_wide.2 HCALL.out).mono ?_; rintro e w2 ⟨rfl, hc2, D1, U, hps, hU, hcut⟩; have HC2 := hidd hc2; have HPS := hidd hps; have HU := hidd hU; have HCUT := hidd hcut; clear hc2 hps hU hcut HCALL)
  have hBn : w.heap.size ≤ Bn ∧ Bn ≤ w.heap.size := by have := HBn.out; omega
  have hs2 := HC2.out.size
  have HNB : Hid (∀ b, w.heap.size ≤ b → b < wA.heap.size → ¬ U b) := fun b h1 h2 hu => by
    rcases HU.out b hu with h | h
    · have := HSL.out b h; omega
    · omega
  have HKB : Hid (∀ {b : Nat} {v : Value}, w.heap.size ≤ b → Boxed wA b 22 v → Boxed w2 b 22 v) := fun {b v} h1 hbx => (HC2.out.block b hbx.lt (fun hs => by have := HSL.out b hs; omega)).trans hbx
  have Y1 := hidd (HKB.out (by omega) HX1.out)
  have Y2 := hidd (HKB.out (by omega) HX2.out)
  have Y3 := hidd (HKB.out (by omega) HX3.out)
  have HC2n : Hid (w2.cell? ⟨Bn, 0, none⟩ = some (.pointer px)) := HC2.out.cell HCA.out (fun hs => by have := HSL.out _ hs; omega)
  have HSQ1 := hidd (HPS.out.seq w2 Bn (Chg.refl _ _) (by omega) HC2n.out)
  have HDL1 : Hid (∀ b, D1 b → b < w2.heap.size) := fun b hb => HPS.out.low b (HPS.out.sub b hb)
  have HDB1 : Hid (∀ b, D1 b → ¬ b = b1) := fun b hb e => HNB.out b (by omega) (by omega) (HPS.out.sub b hb)
  have HT1 : Hid (TR w2 b1 [] w2) := ⟨⟨_, Y1.out, own_nil _ _ _ _ _⟩, Chg.refl _ _⟩
  clear HX1 HX2 HX3 HKB HCA
  refine wpIn_rangeFunc_ownH (α := Nat) rfl (by decide) (gf := 32) (lb := #[.pointer (some ⟨Bn, 0, none⟩)]) rfl trivial (enters_of Try.func32 (by kernel_rfl) rfl)
    (HSQ1.out) KpD.trans (fun V l o o' hl hV hc _ => ⟨by simp, fun b hb => World.putObj_heap_other (by have := HDL1.out b hb; omega)⟩) (Below.refl _ _) (fun _ => rfl)
    (fun pre W => TR w2 b1 pre W)
    (fun cd pre W => cd = .exit 0 ∧ False)
    ?hI1 ?hIx1 ?h01
    (fun z a' _ => a' = { tmps := #[.pointer px, .slice bo nb cb, .int .i64 nc, undef, undef, undef, .slice none 0 0, .slice none 0 0, .slice none 0 0, .func (.func 32) #[] #[.pointer (some ⟨Bn, 0, none⟩)], .pointer (some ⟨b1, 0, none⟩), .pointer (some ⟨b2, 0, none⟩), .pointer (some ⟨b3, 0, none⟩), .int .i64 (z : Int), undef, undef, .pointer px, .func (.func 32) #[] #[.pointer (some ⟨Bn, 0, none⟩)], .func (.func 32) #[] #[.pointer (some ⟨Bn, 0, none⟩)], .bool false, undef, .pointer px, .slice bo nb cb, .tuple #[], .func (.func 32) #[] #[.pointer (some ⟨Bn, 0, none⟩)], .int .i64 (z : Int), undef, undef, undef, undef, undef, undef, undef, undef, undef, undef, undef, undef, undef, undef, undef, undef, undef, undef, undef, undef, undef, undef, undef, undef, undef], defers := [] })
    ?hAx1 ?assign1 ?body1 ?done1 ?stop1
  case hI1 =>
    exact fun pre X Y row h1 hg hr => TR.from_ _ pre () X Y row h1 hg hr
  case hIx1 =>
    rintro cd pre X Y row ⟨h1, h2⟩ hg hr
    exact h2.elim
  case h01 => exact HT1.out
  case hAx1 =>
    rintro z a' u X Y row e1 hg hr
    exact e1
  case assign1 =>
    rintro l pre x W K hi hK
    have HI := hidd hi
    clear hi
    unfold encQ
    gi_wp2
    exact hK _ _ (KeepsFrom.refl _ _) (KpD.refl _ _) HI.out rfl
  case body1 =>
    rintro l pre x a' W hl hlr ⟨⟨v, h1, h2⟩, h3⟩ rfl hlt
    have hO2 := h2
    obtain ⟨u, uc, rfl, hrd⟩ := h2.rd
    have c1 := h1.cell
    have hsz3 := h3.size
    have HX : Hid (∀ (w0 : World) (t : TypeId), (w0.alloc (.cells #[.int .i64 (x : Int)] t)).cell? ⟨w0.heap.size, 0, none⟩ = some (qF (pre ++ [x]) pre.length)) := fun w0 t => by rw [new_cell]; unfold qF; simp
    have HO3 : Hid (Own (W.alloc (.cells #[.int .i64 (x : Int)] 3)) w2.heap.size 3 1 (.slice u pre.length uc) pre.length (qF (pre ++ [x]))) := (hO2.kept (fresh_alloc _ _)).congr (fun j hj => by unfold qF; rw [List.getD_eq_getElem?_getD, List.getD_eq_getElem?_getD, List.getElem?_append_left (by omega)])
    have HONE : Hid ((qF (pre ++ [x]) pre.length).oneCell' = true) := by show _ = _; unfold qF; rfl
    gi_wp2_with (gi_at_builtin; refine wpListIn_own1 _ rfl _ _ 22 rfl w2.heap.size 3 (.int .i64 0) 8 Try.underlying22 infoI rfl _ pre.length (qF (pre ++ [x])) rfl HO3.out _ 1 rfl (HX.out _ _) HONE.out (by omega) (by omega) (by simp; omega) ?_)
    intro u' c' w1 hown' hgr
    have hne : some b1 ≠ (Value.slice u pre.length uc).ownBlock := fun e => by have := (HO3.out.lt _ e.symm).1; omega
    have b9 := (h1.alloc (.cells #[.int .i64 (x : Int)] 3)).kept hgr hne
    have c9 := b9.cell
    have f9 := b9.frozen
    have hw1 := hgr.size
    have hkb : ∀ z, z < w2.heap.size → w1.heap[z]? = W.heap[z]? := fun z hz => (hgr.block z (by simp; omega) (fun e => by have := (HO3.out.lt _ e.symm).1; omega)).trans (Below.heap_alloc _ _ _ (by omega))
    have HTI : Hid (TR w2 b1 (pre ++ [x]) (w1.setCell ⟨b1, 0, none⟩ (.slice u' (pre.length + 1) c'))) := by
      refine ⟨⟨_, b9.set _, ?_⟩, ?_⟩
      · have := ownsRow_setCell_below hown' (a := ⟨b1, 0, none⟩) (by show b1 < _; omega) (.slice u' (pre.length + 1) c')
        rw [show (pre ++ [x]).length = pre.length + 1 by simp]
        exact this
      · have hcA : Chg w2 w1 (fun b => b = b1) := ⟨⟨hgr.os.trans h3.low.os, hgr.tape.trans h3.low.tape, hgr.output.trans h3.low.output, by simp at hw1; omega, fun k hk => absurd hk (by omega)⟩, fun b hb hn => (hkb b hb).trans (h3.block b hb hn)⟩
        exact hcA.trans (Chg.of_set w1 b1 0 _) (fun _ _ e => e)
    have HKO : Hid (KeepsOthers W (w1.setCell ⟨b1, 0, none⟩ (.slice u' (pre.length + 1) c'))) := ((KeepsOthers.alloc W _).trans (keeps_app hgr (fun r e => HO3.out.cells_ e))).trans (KeepsOthers.setCell _ _ _)
    have HKD : Hid (KpD D1 W (w1.setCell ⟨b1, 0, none⟩ (.slice u' (pre.length + 1) c'))) := ⟨by simp at hw1 ⊢; omega, fun b hb => by
      have h5 := HDL1.out b hb
      have h6 := HDB1.out b hb
      exact (Below.heap_setCell _ _ _ _ (by show ¬ (_ = b1); exact h6)).trans (hkb _ h5)⟩
    clear h1 h2 h3 hO2 hrd b9 hkb hgr hown' HX HO3 HONE hw1 hne
    gi_wp2
    exact ⟨HKO.out.from _, HKD.out, HTI.out⟩
  case stop1 =>
    rintro D cd pre W hD hp ⟨rfl, h⟩ hW
    exact h.elim
  case done1 =>
    rintro M1 xs W1 hM1 rfl ⟨⟨v1, hx1, ho1⟩, hch1⟩ hmk1
    have HM1 := hidd hmk1
    have HO1 := hidd ho1
    have HBX1 := hidd hx1
    have HCH1 := hidd hch1
    have hs21 := hch1.size
    have hM1l : M1 < W1.heap.size := (Array.getElem?_eq_some_iff.1 hmk1).1
    have HNC1 : Hid (Chg w2 W1 (fun b => ¬ U b)) := hch1.imp (fun b _ e => by rw [e]; exact HNB.out b1 (by omega) (by omega))
    have Z2 : Hid (Boxed W1 b2 22 (.slice none 0 0)) := (hch1.block b2 Y2.out.lt (by omega)).trans Y2.out
    have Z3 : Hid (Boxed W1 b3 22 (.slice none 0 0)) := (hch1.block b3 Y3.out.lt (by omega)).trans Y3.out
    have HC3n : Hid (W1.cell? ⟨Bn, 0, none⟩ = some (.pointer px)) := hch1.cell HC2n.out (by omega)
    have HSQ2 := hidd (HPS.out.seq W1 Bn HNC1.out (by omega) HC3n.out)
    have HDL2 : Hid (∀ b, D1 b → b < W1.heap.size) := fun b hb => by have := HDL1.out b hb; omega
    have HDB2 : Hid (∀ b, D1 b → ¬ b = b2) := fun b hb e => HNB.out b (by omega) (by omega) (HPS.out.sub b hb)
    have HT2 : Hid (TR W1 b2 [] W1) := ⟨⟨_, Z2.out, own_nil _ _ _ _ _⟩, Chg.refl _ _⟩
    clear hmk1 ho1 hx1 hch1 HSQ1 HT1 HDB1
    gi_wp2
    refine wpIn_rangeFunc_ownH (α := Nat) rfl (by decide) (gf := 32) (lb := #[.pointer (some ⟨Bn, 0, none⟩)]) rfl trivial (enters_of Try.func32 (by kernel_rfl) rfl)
      (HSQ2.out) KpD.trans (fun V l o o' hl hV hc _ => ⟨by simp, fun b hb => World.putObj_heap_other (by have := HDL2.out b hb; omega)⟩) (Below.refl _ _) (fun _ => rfl)
      (fun pre W => TR W1 b2 pre W ∧ (pre.length : Int) < 2)
      (fun cd pre W => cd = .exit 2 ∧ (pre.length : Int) = 2 ∧ TR W1 b2 pre W)
      ?hI2 ?hIx2 ?h02
      (fun z a' _ => a' = { tmps := #[.pointer px, .slice bo nb cb, .int .i64 nc, undef, undef, undef, .slice none 0 0, .slice none 0 0, .slice none 0 0, .func (.func 32) #[] #[.pointer (some ⟨Bn, 0, none⟩)], .pointer (some ⟨b1, 0, none⟩), .pointer (some ⟨b2, 0, none⟩), .pointer (some ⟨b3, 0, none⟩), undef, .int .i64 (z : Int), undef, .pointer px, .func (.func 32) #[] #[.pointer (some ⟨Bn, 0, none⟩)], .func (.func 32) #[] #[.pointer (some ⟨Bn, 0, none⟩)], .bool false, undef, .pointer px, .slice bo nb cb, .tuple #[], .func (.func 32) #[] #[.pointer (some ⟨Bn, 0, none⟩)], undef, undef, undef, undef, undef, .func (.func 32) #[] #[.pointer (some ⟨Bn, 0, none⟩)], .int .i64 (z : Int), undef, undef, undef, undef, undef, undef, undef, undef, undef, undef, undef, undef, undef, undef, undef, undef, undef, undef, undef], defers := [] })
      ?hAx2 ?assign2 ?body2 ?done2 ?stop2
    case hI2 =>
      rintro pre X Y row ⟨h1, h2⟩ hg hr
      exact ⟨TR.from_ _ pre () X Y row h1 hg hr, h2⟩
    case hIx2 =>
      rintro cd pre X Y row ⟨h1, h2, h3⟩ hg hr
      exact ⟨h1, h2, TR.from_ _ pre () X Y row h3 hg hr⟩
    case h02 => exact ⟨HT2.out, by simp⟩
    case hAx2 =>
      rintro z a' u X Y row e1 hg hr
      exact e1
    case assign2 =>
      rintro l pre x W K hi hK
      have HI := hidd hi
      clear hi
      unfold encQ
      gi_wp2
      exact hK _ _ (KeepsFrom.refl _ _) (KpD.refl _ _) HI.out rfl
    case body2 =>
      rintro l pre x a' W hl hlr ⟨⟨⟨v, h1, h2⟩, h3⟩, h6⟩ rfl hlt
      have hO2 := h2
      obtain ⟨u, uc, rfl, hrd⟩ := h2.rd
      have c1 := h1.cell
      have hsz3 := h3.size
      have HX : Hid (∀ (w0 : World) (t : TypeId), (w0.alloc (.cells #[.int .i64 (x : Int)] t)).cell? ⟨w0.heap.size, 0, none⟩ = some (qF (pre ++ [x]) pre.length)) := fun w0 t => by rw [new_cell]; unfold qF; simp
      have HO3 : Hid (Own (W.alloc (.cells #[.int .i64 (x : Int)] 3)) W1.heap.size 3 1 (.slice u pre.length uc) pre.length (qF (pre ++ [x]))) := (hO2.kept (fresh_alloc _ _)).congr (fun j hj => by unfold qF; rw [List.getD_eq_getElem?_getD, List.getD_eq_getElem?_getD, List.getElem?_append_left (by omega)])
      have HONE : Hid ((qF (pre ++ [x]) pre.length).oneCell' = true) := by show _ = _; unfold qF; rfl
      gi_wp2_with (gi_at_builtin; refine wpListIn_own1 _ rfl _ _ 22 rfl W1.heap.size 3 (.int .i64 0) 8 Try.underlying22 infoI rfl _ pre.length (qF (pre ++ [x])) rfl HO3.out _ 1 rfl (HX.out _ _) HONE.out (by omega) (by omega) (by simp; omega) ?_)
      intro u' c' w1 hown' hgr
      have hne : some b2 ≠ (Value.slice u pre.length uc).ownBlock := fun e => by have := (HO3.out.lt _ e.symm).1; omega
      have b9 := (h1.alloc (.cells #[.int .i64 (x : Int)] 3)).kept hgr hne
      have c9 := b9.cell
      have f9 := b9.frozen
      have hw1 := hgr.size
      have hkb : ∀ z, z < W1.heap.size → w1.heap[z]? = W.heap[z]? := fun z hz => (hgr.block z (by simp; omega) (fun e => by have := (HO3.out.lt _ e.symm).1; omega)).trans (Below.heap_alloc _ _ _ (by omega))
      have HTI : Hid (TR W1 b2 (pre ++ [x]) (w1.setCell ⟨b2, 0, none⟩ (.slice u' (pre.length + 1) c'))) := by
        refine ⟨⟨_, b9.set _, ?_⟩, ?_⟩
        · have := ownsRow_setCell_below hown' (a := ⟨b2, 0, none⟩) (by show b2 < _; omega) (.slice u' (pre.length + 1) c')
          rw [show (pre ++ [x]).length = pre.length + 1 by simp]
          exact this
        · have hcA : Chg W1 w1 (fun b => b = b2) := ⟨⟨hgr.os.trans h3.low.os, hgr.tape.trans h3.low.tape, hgr.output.trans h3.low.output, by simp at hw1; omega, fun k hk => absurd hk (by omega)⟩, fun b hb hn => (hkb b hb).trans (h3.block b hb hn)⟩
          exact hcA.trans (Chg.of_set w1 b2 0 _) (fun _ _ e => e)
      have HKO : Hid (KeepsOthers W (w1.setCell ⟨b2, 0, none⟩ (.slice u' (pre.length + 1) c'))) := ((KeepsOthers.alloc W _).trans (keeps_app hgr (fun r e => HO3.out.cells_ e))).trans (KeepsOthers.setCell _ _ _)
      have HKD : Hid (KpD D1 W (w1.setCell ⟨b2, 0, none⟩ (.slice u' (pre.length + 1) c'))) := ⟨by simp at hw1 ⊢; omega, fun b hb => by
        have h5 := HDL2.out b hb
        have h6 := HDB2.out b hb
        exact (Below.heap_setCell _ _ _ _ (by show ¬ (_ = b2); exact h6)).trans (hkb _ h5)⟩
      clear h1 h2 h3 hO2 hrd b9 hkb hgr hown' HX HO3 HONE hw1 hne
      by_cases hst : ((pre.length : Int) + 1) = 2
      · have hd : (((pre.length : Int) + 1) == 2) = true := by simpa using hst
        gi_wp2
        exact ⟨HKO.out.from _, rfl, by simp; omega, HTI.out⟩
      · have hd : (((pre.length : Int) + 1) == 2) = false := by simpa using hst
        gi_wp2
        exact ⟨HKO.out.from _, HKD.out, HTI.out, by simp; omega⟩
    case stop2 =>
      rintro M2 cd ys W2 hM2 hp ⟨rfl, hl2, ⟨⟨v2, hx2, ho2⟩, hch2⟩⟩ hmk2
      have HYQ : Hid (pkQ 2 xs = ys) := pkQ_cut (by omega) hl2 hp
      clear hp
      have hM2l : M2 < W2.heap.size := (Array.getElem?_eq_some_iff.1 hmk2).1
      have hs22 := hch2.size
      have HM2 := hidd hmk2
      have HM1b : Hid (W2.heap[M1]? = some (.deferred (some []))) := (hch2.block M1 hM1l (by omega)).trans HM1.out
      have HO1b := hidd (Own.chg hch2 HO1.out (fun b hb e => by have := (HO1.out.lt b hb).1; omega))
      have HO2 := hidd ho2
      have Q1 : Hid (Boxed W2 b1 22 v1) := (hch2.block b1 HBX1.out.lt (by omega)).trans HBX1.out
      have Q2 := hidd hx2
      have Q3 : Hid (Boxed W2 b3 22 (.slice none 0 0)) := (hch2.block b3 Z3.out.lt (by omega)).trans Z3.out
      have HC4n : Hid (W2.cell? ⟨Bn, 0, none⟩ = some (.pointer px)) := hch2.cell HC3n.out (by omega)
      have HNC2 : Hid (Chg w2 W2 (fun b => ¬ U b)) := HNC1.out.trans hch2 (fun b _ e => by rw [e]; exact HNB.out b2 (by omega) (by omega))
      have HCC := hidd (HCUT.out W2 HNC2.out)
      have HUL : Hid (∀ b, U b → b < w2.heap.size) := HPS.out.low
      have HCH2 := hidd hch2
      clear hmk2 hx2 ho2 hch2 HSQ2 HT2 HDB2 HM1 HO1 HBX1 Z2 Z3 HC3n HCUT
      gi_wp2_with (refine ⟨trivial, ?_⟩; gi_at_call 18; refine (callsIn_wide.2 HCC.out).mono ?_; rintro e w4 ⟨rfl, hc4, D3, hps4⟩; have HC4 := hidd hc4; have HPS4 := hidd hps4; clear hc4 hps4 HCC)
      have hs44 := HC4.out.size
      have HM1c : Hid (w4.heap[M1]? = some (.deferred (some []))) := (HC4.out.block M1 (by omega) (fun hu => by have := HUL.out _ hu; omega)).trans HM1b.out
      have HM2c : Hid (w4.heap[M2]? = some (.deferred (some []))) := (HC4.out.block M2 hM2l (fun hu => by have := HUL.out _ hu; omega)).trans HM2.out
      have HO1c := hidd (Own.chg HC4.out HO1b.out (fun b hb hu => by have := (HO1b.out.lt b hb).1; have := HUL.out _ hu; omega))
      have HO2c := hidd (Own.chg HC4.out HO2.out (fun b hb hu => by have := (HO2.out.lt b hb).1; have := HUL.out _ hu; omega))
      have R1 : Hid (Boxed w4 b1 22 v1) := (HC4.out.block b1 Q1.out.lt (HNB.out b1 (by omega) (by omega))).trans Q1.out
      have R2 : Hid (Boxed w4 b2 22 v2) := (HC4.out.block b2 Q2.out.lt (HNB.out b2 (by omega) (by omega))).trans Q2.out
      have R3 : Hid (Boxed w4 b3 22 (.slice none 0 0)) := (HC4.out.block b3 Q3.out.lt (HNB.out b3 (by omega) (by omega))).trans Q3.out
      have HC5n : Hid (w4.cell? ⟨Bn, 0, none⟩ = some (.pointer px)) := HC4.out.cell HC4n.out (HNB.out Bn (by omega) (by omega))
      have HSQ3 := hidd (HPS4.out.seq w4 Bn (Chg.refl _ _) (by omega) HC5n.out)
      have HDL3 : Hid (∀ b, D3 b → b < w4.heap.size) := fun b hb => HPS4.out.low b (HPS4.out.sub b hb)
      have HDB3 : Hid (∀ b, D3 b → ¬ b = b3) := fun b hb e => HNB.out b (by omega) (by omega) (HPS4.out.sub b hb)
      have HT3 : Hid (TR w4 b3 [] w4) := ⟨⟨_, R3.out, own_nil _ _ _ _ _⟩, Chg.refl _ _⟩
      clear HM1b HM2 HO1b HO2 Q1 Q2 Q3 HC4n R3
      refine wpIn_rangeFunc_ownH (α := Nat) rfl (by decide) (gf := 32) (lb := #[.pointer (some ⟨Bn, 0, none⟩)]) rfl trivial (enters_of Try.func32 (by kernel_rfl) rfl)
        (HSQ3.out) KpD.trans (fun V l o o' hl hV hc _ => ⟨by simp, fun b hb => World.putObj_heap_other (by have := HDL3.out b hb; omega)⟩) (Below.refl _ _) (fun _ => rfl)
        (fun pre W => TR w4 b3 pre W)
        (fun cd pre W => cd = .exit 0 ∧ False)
        ?hI3 ?hIx3 ?h03
        (fun z a' _ => a' = { tmps := #[.pointer px, .slice bo nb cb, .int .i64 nc, undef, undef, undef, .slice none 0 0, .slice none 0 0, .slice none 0 0, .func (.func 32) #[] #[.pointer (some ⟨Bn, 0, none⟩)], .pointer (some ⟨b1, 0, none⟩), .pointer (some ⟨b2, 0, none⟩), .pointer (some ⟨b3, 0, none⟩), undef, undef, .int .i64 (z : Int), .pointer px, .func (.func 32) #[] #[.pointer (some ⟨Bn, 0, none⟩)], .func (.func 32) #[] #[.pointer (some ⟨Bn, 0, none⟩)], .bool false, undef, .pointer px, .slice bo nb cb, .tuple #[], .func (.func 32) #[] #[.pointer (some ⟨Bn, 0, none⟩)], undef, undef, undef, undef, undef, .func (.func 32) #[] #[.pointer (some ⟨Bn, 0, none⟩)], undef, undef, undef, undef, undef, undef, undef, undef, .pointer px, .int .i64 nc, .tuple #[], .func (.func 32) #[] #[.pointer (some ⟨Bn, 0, none⟩)], .int .i64 (z : Int), undef, undef, undef, undef, undef, undef, undef], defers := [] })
        ?hAx3 ?assign3 ?body3 ?done3 ?stop3
      case hI3 =>
        exact fun pre X Y row h1 hg hr => TR.from_ _ pre () X Y row h1 hg hr
      case hIx3 =>
        rintro cd pre X Y row ⟨h1, h2⟩ hg hr
        exact h2.elim
      case h03 => exact HT3.out
      case hAx3 =>
        rintro z a' u X Y row e1 hg hr
        exact e1
      case assign3 =>
        rintro l pre x W K hi hK
        have HI := hidd hi
        clear hi
        unfold encQ
        gi_wp2
        exact hK _ _ (KeepsFrom.refl _ _) (KpD.refl _ _) HI.out rfl
      case body3 =>
        rintro l pre x a' W hl hlr ⟨⟨v, h1, h2⟩, h3⟩ rfl hlt
        have hO2 := h2
        obtain ⟨u, uc, rfl, hrd⟩ := h2.rd
        have c1 := h1.cell
        have hsz3 := h3.size
        have HX : Hid (∀ (w0 : World) (t : TypeId), (w0.alloc (.cells #[.int .i64 (x : Int)] t)).cell? ⟨w0.heap.size, 0, none⟩ = some (qF (pre ++ [x]) pre.length)) := fun w0 t => by rw [new_cell]; unfold qF; simp
        have HO3 : Hid (Own (W.alloc (.cells #[.int .i64 (x : Int)] 3)) w4.heap.size 3 1 (.slice u pre.length uc) pre.length (qF (pre ++ [x]))) := (hO2.kept (fresh_alloc _ _)).congr (fun j hj => by unfold qF; rw [List.getD_eq_getElem?_getD, List.getD_eq_getElem?_getD, List.getElem?_append_left (by omega)])
        have HONE : Hid ((qF (pre ++ [x]) pre.length).oneCell' = true) := by show _ = _; unfold qF; rfl
        gi_wp2_with (gi_at_builtin; refine wpListIn_own1 _ rfl _ _ 22 rfl w4.heap.size 3 (.int .i64 0) 8 Try.underlying22 infoI rfl _ pre.length (qF (pre ++ [x])) rfl HO3.out _ 1 rfl (HX.out _ _) HONE.out (by omega) (by omega) (by simp; omega) ?_)
        intro u' c' w1 hown' hgr
        have hne : some b3 ≠ (Value.slice u pre.length uc).ownBlock := fun e => by have := (HO3.out.lt _ e.symm).1; omega
        have b9 := (h1.alloc (.cells #[.int .i64 (x : Int)] 3)).kept hgr hne
        have c9 := b9.cell
        have f9 := b9.frozen
        have hw1 := hgr.size
        have hkb : ∀ z, z < w4.heap.size → w1.heap[z]? = W.heap[z]? := fun z hz => (hgr.block z (by simp; omega) (fun e => by have := (HO3.out.lt _ e.symm).1; omega)).trans (Below.heap_alloc _ _ _ (by omega))
        have HTI : Hid (TR w4 b3 (pre ++ [x]) (w1.setCell ⟨b3, 0, none⟩ (.slice u' (pre.length + 1) c'))) := by
          refine ⟨⟨_, b9.set _, ?_⟩, ?_⟩
          · have := ownsRow_setCell_below hown' (a := ⟨b3, 0, none⟩) (by show b3 < _; omega) (.slice u' (pre.length + 1) c')
            rw [show (pre ++ [x]).length = pre.length + 1 by simp]
            exact this
          · have hcA : Chg w4 w1 (fun b => b = b3) := ⟨⟨hgr.os.trans h3.low.os, hgr.tape.trans h3.low.tape, hgr.output.trans h3.low.output, by simp at hw1; omega, fun k hk => absurd hk (by omega)⟩, fun b hb hn => (hkb b hb).trans (h3.block b hb hn)⟩
            exact hcA.trans (Chg.of_set w1 b3 0 _) (fun _ _ e => e)
        have HKO : Hid (KeepsOthers W (w1.setCell ⟨b3, 0, none⟩ (.slice u' (pre.length + 1) c'))) := ((KeepsOthers.alloc W _).trans (keeps_app hgr (fun r e => HO3.out.cells_ e))).trans (KeepsOthers.setCell _ _ _)
        have HKD : Hid (KpD D3 W (w1.setCell ⟨b3, 0, none⟩ (.slice u' (pre.length + 1) c'))) := ⟨by simp at hw1 ⊢; omega, fun b hb => by
          have h5 := HDL3.out b hb
          have h6 := HDB3.out b hb
          exact (Below.heap_setCell _ _ _ _ (by show ¬ (_ = b3); exact h6)).trans (hkb _ h5)⟩
        clear h1 h2 h3 hO2 hrd b9 hkb hgr hown' HX HO3 HONE hw1 hne
        gi_wp2
        exact ⟨HKO.out.from _, HKD.out, HTI.out⟩
      case stop3 =>
        rintro D cd pre W hD hp ⟨rfl, h⟩ hW
        exact h.elim
      case done3 =>
        rintro M3 zs W5 hM3 rfl ⟨⟨v3, hx3, ho3⟩, hch3⟩ hmk3
        have hs55 := hch3.size
        have hM3l : M3 < W5.heap.size := (Array.getElem?_eq_some_iff.1 hmk3).1
        have HM3 := hidd hmk3
        have HM1d : Hid (W5.heap[M1]? = some (.deferred (some []))) := (hch3.block M1 (by omega) (by omega)).trans HM1c.out
        have HM2d : Hid (W5.heap[M2]? = some (.deferred (some []))) := (hch3.block M2 (by omega) (by omega)).trans HM2c.out
        have HO1d := hidd (Own.chg hch3 HO1c.out (fun b hb e => by have := (HO1c.out.lt b hb).1; omega))
        have HO2d := hidd (Own.chg hch3 HO2c.out (fun b hb e => by have := (HO2c.out.lt b hb).1; omega))
        have HO3d := hidd ho3
        have S1 : Boxed W5 b1 22 v1 := (hch3.block b1 R1.out.lt (by omega)).trans R1.out
        have S2 : Boxed W5 b2 22 v2 := (hch3.block b2 R2.out.lt (by omega)).trans R2.out
        have S3 := hx3
        obtain ⟨u1, c1, rfl, _⟩ := HO1d.out.rd
        obtain ⟨u2, c2, rfl, _⟩ := HO2d.out.rd
        obtain ⟨u3, c3, rfl, _⟩ := HO3d.out.rd
        have k1 := S1.cell
        have k2 := S2.cell
        have k3 := S3.cell
        have HFC : Hid (Chg w W5 S) := by
          have e1 : Chg w w2 S := (Chg.of_below S HAw.out).trans HC2.out (fun _ _ hs => hs)
          have e2 : Chg w W1 S := e1.trans HCH1.out (fun b hb e => by omega)
          have e3 : Chg w W2 S := e2.trans HCH2.out (fun b hb e => by omega)
          have e4 : Chg w w4 S := e3.trans HC4.out (fun b hb hu => by rcases HU.out b hu with h | h; exact h; omega)
          exact e4.trans hch3 (fun b hb e => by omega)
        clear S1 S2 S3 hx3 ho3 hch3 hmk3 HSQ3 HT3 HDB3
        gi_wp2
        gi_quiet_th (fail)
        gi_wp2
        have f5 := fresh_drewN W5 nq
        have HM1e : Hid ((W5.drewN nq).heap[M1]? = some (.deferred (some []))) := HM1d.out
        have HM2e : Hid ((W5.drewN nq).heap[M2]? = some (.deferred (some []))) := HM2d.out
        have HM3e : Hid ((W5.drewN nq).heap[M3]? = some (.deferred (some []))) := HM3.out
        have P1 := HO1d.out.kept f5
        have P2 := HO2d.out.kept f5
        have P3 := HO3d.out.kept f5
        have P4 := HFC.out.post f5
        generalize W5.drewN nq = W6 at *
        have g3 := grownBy_putObj' W6 M3 (.deferred none)
        have g2 := grownBy_putObj' (W6.putObj M3 (.deferred none)) M2 (.deferred none)
        have g1 := grownBy_putObj' ((W6.putObj M3 (.deferred none)).putObj M2 (.deferred none)) M1 (.deferred none)
        have q2 : (W6.putObj M3 (.deferred none)).heap[M2]? = some (.deferred (some [])) := (World.putObj_heap_other (by omega)).trans HM2e.out
        have q1 : ((W6.putObj M3 (.deferred none)).putObj M2 (.deferred none)).heap[M1]? = some (.deferred (some [])) := (World.putObj_heap_other (by omega)).trans ((World.putObj_heap_other (by omega)).trans HM1e.out)
        have kp : ∀ {v : Value} {bs n : Nat} {cs : Nat → Value}, Own W6 bs 3 1 v n cs → Own (((W6.putObj M3 (.deferred none)).putObj M2 (.deferred none)).putObj M1 (.deferred none)) bs 3 1 v n cs := fun {v bs n cs} ho =>
          own_from 0 bs 3 1 v n cs () _ _ (some M1) (own_from 0 bs 3 1 v n cs () _ _ (some M2) (own_from 0 bs 3 1 v n cs () W6 _ (some M3) ho g3 (fun r e => by cases e; exact ⟨Nat.zero_le _, _, HM3e.out, rfl⟩)) g2 (fun r e => by cases e; exact ⟨Nat.zero_le _, _, q2, rfl⟩)) g1 (fun r e => by cases e; exact ⟨Nat.zero_le _, _, q1, rfl⟩)
        have hcf : Chg w (((W6.putObj M3 (.deferred none)).putObj M2 (.deferred none)).putObj M1 (.deferred none)) S := by
          have c3 : Chg w (W6.putObj M3 (.deferred none)) S := ⟨⟨g3.os.trans P4.low.os, g3.tape.trans P4.low.tape, g3.output.trans P4.low.output, Nat.le_trans P4.low.size g3.size, fun k hk => absurd hk (by omega)⟩, fun b hb hs => (World.putObj_heap_other (by omega)).trans (P4.block b hb hs)⟩
          have c2 : Chg w ((W6.putObj M3 (.deferred none)).putObj M2 (.deferred none)) S := ⟨⟨g2.os.trans c3.low.os, g2.tape.trans c3.low.tape, g2.output.trans c3.low.output, Nat.le_trans c3.low.size g2.size, fun k hk => absurd hk (by omega)⟩, fun b hb hs => (World.putObj_heap_other (by omega)).trans (c3.block b hb hs)⟩
          exact ⟨⟨g1.os.trans c2.low.os, g1.tape.trans c2.low.tape, g1.output.trans c2.low.output, Nat.le_trans c2.low.size g1.size, fun k hk => absurd hk (by omega)⟩, fun b hb hs => (World.putObj_heap_other (by omega)).trans (c2.block b hb hs)⟩
        refine ⟨by simp, .inl ⟨_, _, rfl, run_takeDeferred HM3e.out, ?_⟩⟩
        refine ⟨by simp, .inl ⟨_, _, rfl, run_takeDeferred q2, ?_⟩⟩
        refine ⟨by simp, .inl ⟨_, _, rfl, run_takeDeferred q1, ?_⟩⟩
        rw [HYQ.out]
        exact ⟨_, by simp [results, Try.f10, go_sem], u1, c1, u2, c2, u3, c3, rfl, (kp P1).weaken (by omega), (kp P2).weaken (by omega), (kp P3).weaken (by omega), hcf⟩
    case done2 =>
      rintro M2 ys W2 hM2 hys ⟨⟨⟨v2, hx2, ho2⟩, hch2⟩, hl2⟩ hmk2
      have HYQ : Hid (pkQ 2 xs = ys) := by
        show _ = _
        rw [hys]
        exact pkQ_all (.inr (by rw [← hys]; exact hl2))
      clear hys
      have hM2l : M2 < W2.heap.size := (Array.getElem?_eq_some_iff.1 hmk2).1
      have hs22 := hch2.size
      have HM2 := hidd hmk2
      have HM1b : Hid (W2.heap[M1]? = some (.deferred (some []))) := (hch2.block M1 hM1l (by omega)).trans HM1.out
      have HO1b := hidd (Own.chg hch2 HO1.out (fun b hb e => by have := (HO1.out.lt b hb).1; omega))
      have HO2 := hidd ho2
      have Q1 : Hid (Boxed W2 b1 22 v1) := (hch2.block b1 HBX1.out.lt (by omega)).trans HBX1.out
      have Q2 := hidd hx2
      have Q3 : Hid (Boxed W2 b3 22 (.slice none 0 0)) := (hch2.block b3 Z3.out.lt (by omega)).trans Z3.out
      have HC4n : Hid (W2.cell? ⟨Bn, 0, none⟩ = some (.pointer px)) := hch2.cell HC3n.out (by omega)
      have HNC2 : Hid (Chg w2 W2 (fun b => ¬ U b)) := HNC1.out.trans hch2 (fun b _ e => by rw [e]; exact HNB.out b2 (by omega) (by omega))
      have HCC := hidd (HCUT.out W2 HNC2.out)
      have HUL : Hid (∀ b, U b → b < w2.heap.size) := HPS.out.low
      have HCH2 := hidd hch2
      clear hmk2 hx2 ho2 hch2 HSQ2 HT2 HDB2 HM1 HO1 HBX1 Z2 Z3 HC3n HCUT
      gi_wp2_with (refine ⟨trivial, ?_⟩; gi_at_call 18; refine (callsIn_wide.2 HCC.out).mono ?_; rintro e w4 ⟨rfl, hc4, D3, hps4⟩; have HC4 := hidd hc4; have HPS4 := hidd hps4; clear hc4 hps4 HCC)
      have hs44 := HC4.out.size
      have HM1c : Hid (w4.heap[M1]? = some (.deferred (some []))) := (HC4.out.block M1 (by omega) (fun hu => by have := HUL.out _ hu; omega)).trans HM1b.out
      have HM2c : Hid (w4.heap[M2]? = some (.deferred (some []))) := (HC4.out.block M2 hM2l (fun hu => by have := HUL.out _ hu; omega)).trans HM2.out
      have HO1c := hidd (Own.chg HC4.out HO1b.out (fun b hb hu => by have := (HO1b.out.lt b hb).1; have := HUL.out _ hu; omega))
      have HO2c := hidd (Own.chg HC4.out HO2.out (fun b hb hu => by have := (HO2.out.lt b hb).1; have := HUL.out _ hu; omega))
      have R1 : Hid (Boxed w4 b1 22 v1) := (HC4.out.block b1 Q1.out.lt (HNB.out b1 (by omega) (by omega))).trans Q1.out
      have R2 : Hid (Boxed w4 b2 22 v2) := (HC4.out.block b2 Q2.out.lt (HNB.out b2 (by omega) (by omega))).trans Q2.out
      have R3 : Hid (Boxed w4 b3 22 (.slice none 0 0)) := (HC4.out.block b3 Q3.out.lt (HNB.out b3 (by omega) (by omega))).trans Q3.out
      have HC5n : Hid (w4.cell? ⟨Bn, 0, none⟩ = some (.pointer px)) := HC4.out.cell HC4n.out (HNB.out Bn (by omega) (by omega))
      have HSQ3 := hidd (HPS4.out.seq w4 Bn (Chg.refl _ _) (by omega) HC5n.out)
      have HDL3 : Hid (∀ b, D3 b → b < w4.heap.size) := fun b hb => HPS4.out.low b (HPS4.out.sub b hb)
      have HDB3 : Hid (∀ b, D3 b → ¬ b = b3) := fun b hb e => HNB.out b (by omega) (by omega) (HPS4.out.sub b hb)
      have HT3 : Hid (TR w4 b3 [] w4) := ⟨⟨_, R3.out, own_nil _ _ _ _ _⟩, Chg.refl _ _⟩
      clear HM1b HM2 HO1b HO2 Q1 Q2 Q3 HC4n R3
      refine wpIn_rangeFunc_ownH (α := Nat) rfl (by decide) (gf := 32) (lb := #[.pointer (some ⟨Bn, 0, none⟩)]) rfl trivial (enters_of Try.func32 (by kernel_rfl) rfl)
        (HSQ3.out) KpD.trans (fun V l o o' hl hV hc _ => ⟨by simp, fun b hb => World.putObj_heap_other (by have := HDL3.out b hb; omega)⟩) (Below.refl _ _) (fun _ => rfl)
        (fun pre W => TR w4 b3 pre W)
        (fun cd pre W => cd = .exit 0 ∧ False)
        ?hI3 ?hIx3 ?h03
        (fun z a' _ => a' = { tmps := #[.pointer px, .slice bo nb cb, .int .i64 nc, undef, undef, undef, .slice none 0 0, .slice none 0 0, .slice none 0 0, .func (.func 32) #[] #[.pointer (some ⟨Bn, 0, none⟩)], .pointer (some ⟨b1, 0, none⟩), .pointer (some ⟨b2, 0, none⟩), .pointer (some ⟨b3, 0, none⟩), undef, undef, .int .i64 (z : Int), .pointer px, .func (.func 32) #[] #[.pointer (some ⟨Bn, 0, none⟩)], .func (.func 32) #[] #[.pointer (some ⟨Bn, 0, none⟩)], .bool false, undef, .pointer px, .slice bo nb cb, .tuple #[], .func (.func 32) #[] #[.pointer (some ⟨Bn, 0, none⟩)], undef, undef, undef, undef, undef, .func (.func 32) #[] #[.pointer (some ⟨Bn, 0, none⟩)], undef, undef, undef, undef, undef, undef, undef, undef, .pointer px, .int .i64 nc, .tuple #[], .func (.func 32) #[] #[.pointer (some ⟨Bn, 0, none⟩)], .int .i64 (z : Int), undef, undef, undef, undef, undef, undef, undef], defers := [] })
        ?hAx3 ?assign3 ?body3 ?done3 ?stop3
      case hI3 =>
        exact fun pre X Y row h1 hg hr => TR.from_ _ pre () X Y row h1 hg hr
      case hIx3 =>
        rintro cd pre X Y row ⟨h1, h2⟩ hg hr
        exact h2.elim
      case h03 => exact HT3.out
      case hAx3 =>
        rintro z a' u X Y row e1 hg hr
        exact e1
      case assign3 =>
        rintro l pre x W K hi hK
        have HI := hidd hi
        clear hi
        unfold encQ
        gi_wp2
        exact hK _ _ (KeepsFrom.refl _ _) (KpD.refl _ _) HI.out rfl
      case body3 =>
        rintro l pre x a' W hl hlr ⟨⟨v, h1, h2⟩, h3⟩ rfl hlt
        have hO2 := h2
        obtain ⟨u, uc, rfl, hrd⟩ := h2.rd
        have c1 := h1.cell
        have hsz3 := h3.size
        have HX : Hid (∀ (w0 : World) (t : TypeId), (w0.alloc (.cells #[.int .i64 (x : Int)] t)).cell? ⟨w0.heap.size, 0, none⟩ = some (qF (pre ++ [x]) pre.length)) := fun w0 t => by rw [new_cell]; unfold qF; simp
        have HO3 : Hid (Own (W.alloc (.cells #[.int .i64 (x : Int)] 3)) w4.heap.size 3 1 (.slice u pre.length uc) pre.length (qF (pre ++ [x]))) := (hO2.kept (fresh_alloc _ _)).congr (fun j hj => by unfold qF; rw [List.getD_eq_getElem?_getD, List.getD_eq_getElem?_getD, List.getElem?_append_left (by omega)])
        have HONE : Hid ((qF (pre ++ [x]) pre.length).oneCell' = true) := by show _ = _; unfold qF; rfl
        gi_wp2_with (gi_at_builtin; refine wpListIn_own1 _ rfl _ _ 22 rfl w4.heap.size 3 (.int .i64 0) 8 Try.underlying22 infoI rfl _ pre.length (qF (pre ++ [x])) rfl HO3.out _ 1 rfl (HX.out _ _) HONE.out (by omega) (by omega) (by simp; omega) ?_)
        intro u' c' w1 hown' hgr
        have hne : some b3 ≠ (Value.slice u pre.length uc).ownBlock := fun e => by have := (HO3.out.lt _ e.symm).1; omega
        have b9 := (h1.alloc (.cells #[.int .i64 (x : Int)] 3)).kept hgr hne
        have c9 := b9.cell
        have f9 := b9.frozen
        have hw1 := hgr.size
        have hkb : ∀ z, z < w4.heap.size → w1.heap[z]? = W.heap[z]? := fun z hz => (hgr.block z (by simp; omega) (fun e => by have := (HO3.out.lt _ e.symm).1; omega)).trans (Below.heap_alloc _ _ _ (by omega))
        have HTI : Hid (TR w4 b3 (pre ++ [x]) (w1.setCell ⟨b3, 0, none⟩ (.slice u' (pre.length + 1) c'))) := by
          refine ⟨⟨_, b9.set _, ?_⟩, ?_⟩
          · have := ownsRow_setCell_below hown' (a := ⟨b3, 0, none⟩) (by show b3 < _; omega) (.slice u' (pre.length + 1) c')
            rw [show (pre ++ [x]).length = pre.length + 1 by simp]
            exact this
          · have hcA : Chg w4 w1 (fun b => b = b3) := ⟨⟨hgr.os.trans h3.low.os, hgr.tape.trans h3.low.tape, hgr.output.trans h3.low.output, by simp at hw1; omega, fun k hk => absurd hk (by omega)⟩, fun b hb hn => (hkb b hb).trans (h3.block b hb hn)⟩
            exact hcA.trans (Chg.of_set w1 b3 0 _) (fun _ _ e => e)
        have HKO : Hid (KeepsOthers W (w1.setCell ⟨b3, 0, none⟩ (.slice u' (pre.length + 1) c'))) := ((KeepsOthers.alloc W _).trans (keeps_app hgr (fun r e => HO3.out.cells_ e))).trans (KeepsOthers.setCell _ _ _)
        have HKD : Hid (KpD D3 W (w1.setCell ⟨b3, 0, none⟩ (.slice u' (pre.length + 1) c'))) := ⟨by simp at hw1 ⊢; omega, fun b hb => by
          have h5 := HDL3.out b hb
          have h6 := HDB3.out b hb
          exact (Below.heap_setCell _ _ _ _ (by show ¬ (_ = b3); exact h6)).trans (hkb _ h5)⟩
        clear h1 h2 h3 hO2 hrd b9 hkb hgr hown' HX HO3 HONE hw1 hne
        gi_wp2
        exact ⟨HKO.out.from _, HKD.out, HTI.out⟩
      case stop3 =>
        rintro D cd pre W hD hp ⟨rfl, h⟩ hW
        exact h.elim
      case done3 =>
        rintro M3 zs W5 hM3 rfl ⟨⟨v3, hx3, ho3⟩, hch3⟩ hmk3
        have hs55 := hch3.size
        have hM3l : M3 < W5.heap.size := (Array.getElem?_eq_some_iff.1 hmk3).1
        have HM3 := hidd hmk3
        have HM1d : Hid (W5.heap[M1]? = some (.deferred (some []))) := (hch3.block M1 (by omega) (by omega)).trans HM1c.out
        have HM2d : Hid (W5.heap[M2]? = some (.deferred (some []))) := (hch3.block M2 (by omega) (by omega)).trans HM2c.out
        have HO1d := hidd (Own.chg hch3 HO1c.out (fun b hb e => by have := (HO1c.out.lt b hb).1; omega))
        have HO2d := hidd (Own.chg hch3 HO2c.out (fun b hb e => by have := (HO2c.out.lt b hb).1; omega))
        have HO3d := hidd ho3
        have S1 : Boxed W5 b1 22 v1 := (hch3.block b1 R1.out.lt (by omega)).trans R1.out
        have S2 : Boxed W5 b2 22 v2 := (hch3.block b2 R2.out.lt (by omega)).trans R2.out
        have S3 := hx3
        obtain ⟨u1, c1, rfl, _⟩ := HO1d.out.rd
        obtain ⟨u2, c2, rfl, _⟩ := HO2d.out.rd
        obtain ⟨u3, c3, rfl, _⟩ := HO3d.out.rd
        have k1 := S1.cell
        have k2 := S2.cell
        have k3 := S3.cell
        have HFC : Hid (Chg w W5 S) := by
          have e1 : Chg w w2 S := (Chg.of_below S HAw.out).trans HC2.out (fun _ _ hs => hs)
          have e2 : Chg w W1 S := e1.trans HCH1.out (fun b hb e => by omega)
          have e3 : Chg w W2 S := e2.trans HCH2.out (fun b hb e => by omega)
          have e4 : Chg w w4 S := e3.trans HC4.out (fun b hb hu => by rcases HU.out b hu with h | h; exact h; omega)
          exact e4.trans hch3 (fun b hb e => by omega)
        clear S1 S2 S3 hx3 ho3 hch3 hmk3 HSQ3 HT3 HDB3
        gi_wp2
        gi_quiet_th (fail)
        gi_wp2
        have f5 := fresh_drewN W5 nq
        have HM1e : Hid ((W5.drewN nq).heap[M1]? = some (.deferred (some []))) := HM1d.out
        have HM2e : Hid ((W5.drewN nq).heap[M2]? = some (.deferred (some []))) := HM2d.out
        have HM3e : Hid ((W5.drewN nq).heap[M3]? = some (.deferred (some []))) := HM3.out
        have P1 := HO1d.out.kept f5
        have P2 := HO2d.out.kept f5
        have P3 := HO3d.out.kept f5
        have P4 := HFC.out.post f5
        generalize W5.drewN nq = W6 at *
        have g3 := grownBy_putObj' W6 M3 (.deferred none)
        have g2 := grownBy_putObj' (W6.putObj M3 (.deferred none)) M2 (.deferred none)
        have g1 := grownBy_putObj' ((W6.putObj M3 (.deferred none)).putObj M2 (.deferred none)) M1 (.deferred none)
        have q2 : (W6.putObj M3 (.deferred none)).heap[M2]? = some (.deferred (some [])) := (World.putObj_heap_other (by omega)).trans HM2e.out
        have q1 : ((W6.putObj M3 (.deferred none)).putObj M2 (.deferred none)).heap[M1]? = some (.deferred (some [])) := (World.putObj_heap_other (by omega)).trans ((World.putObj_heap_other (by omega)).trans HM1e.out)
        have kp : ∀ {v : Value} {bs n : Nat} {cs : Nat → Value}, Own W6 bs 3 1 v n cs → Own (((W6.putObj M3 (.deferred none)).putObj M2 (.deferred none)).putObj M1 (.deferred none)) bs 3 1 v n cs := fun {v bs n cs} ho =>
          own_from 0 bs 3 1 v n cs () _ _ (some M1) (own_from 0 bs 3 1 v n cs () _ _ (some M2) (own_from 0 bs 3 1 v n cs () W6 _ (some M3) ho g3 (fun r e => by cases e; exact ⟨Nat.zero_le _, _, HM3e.out, rfl⟩)) g2 (fun r e => by cases e; exact ⟨Nat.zero_le _, _, q2, rfl⟩)) g1 (fun r e => by cases e; exact ⟨Nat.zero_le _, _, q1, rfl⟩)
        have hcf : Chg w (((W6.putObj M3 (.deferred none)).putObj M2 (.deferred none)).putObj M1 (.deferred none)) S := by
          have c3 : Chg w (W6.putObj M3 (.deferred none)) S := ⟨⟨g3.os.trans P4.low.os, g3.tape.trans P4.low.tape, g3.output.trans P4.low.output, Nat.le_trans P4.low.size g3.size, fun k hk => absurd hk (by omega)⟩, fun b hb hs => (World.putObj_heap_other (by omega)).trans (P4.block b hb hs)⟩
          have c2 : Chg w ((W6.putObj M3 (.deferred none)).putObj M2 (.deferred none)) S := ⟨⟨g2.os.trans c3.low.os, g2.tape.trans c3.low.tape, g2.output.trans c3.low.output, Nat.le_trans c3.low.size g2.size, fun k hk => absurd hk (by omega)⟩, fun b hb hs => (World.putObj_heap_other (by omega)).trans (c3.block b hb hs)⟩
          exact ⟨⟨g1.os.trans c2.low.os, g1.tape.trans c2.low.tape, g1.output.trans c2.low.output, Nat.le_trans c2.low.size g1.size, fun k hk => absurd hk (by omega)⟩, fun b hb hs => (World.putObj_heap_other (by omega)).trans (c2.block b hb hs)⟩
        refine ⟨by simp, .inl ⟨_, _, rfl, run_takeDeferred HM3e.out, ?_⟩⟩
        refine ⟨by simp, .inl ⟨_, _, rfl, run_takeDeferred q2, ?_⟩⟩
        refine ⟨by simp, .inl ⟨_, _, rfl, run_takeDeferred q1, ?_⟩⟩
        rw [HYQ.out]
        exact ⟨_, by simp [results, Try.f10, go_sem], u1, c1, u2, c2, u3, c3, rfl, (kp P1).weaken (by omega), (kp P2).weaken (by omega), (kp P3).weaken (by omega), hcf⟩
end Go.Proofs.Ytbpldnlafilbbab
