import Derived.Test.YtakekdbclmgeoaaTpR
namespace Go.Proofs.Ytakekdbclmgeoaa
open Go.RowKit Go.Shelf
attribute [local go_sem] Oper.semAt_some
/-! What the function that Paths answers hands over. -/
/-- the ways of the leaves -/
def ptG (n : Nat) (P : Nat → Int) (k : Nat) (args : Array Value) (V : World) : Prop := ∃ b, args = #[.slice (some ⟨b, 0, none⟩) (wy P ((lvL n P).getD k 0)).length (wy P ((lvL n P).getD k 0)).length] ∧ V.rowIs b 3 (wy P ((lvL n P).getD k 0)).length (qF (wy P ((lvL n P).getD k 0)))
theorem lvL_lt {n : Nat} {P : Nat → Int} {k : Nat} (h : k < (lvL n P).length) : (lvL n P).getD k 0 < n := by
  have hm : (lvL n P).getD k 0 ∈ lvL n P := by
    rw [List.getD_eq_getElem?_getD, List.getElem?_eq_getElem h]
    exact List.getElem_mem h
  have := List.mem_filter.1 hm
  exact List.mem_range.1 this.1
theorem KpC.drew {S : Nat → Prop} {W V : World} (h : KpC S W V) : KpC S W V.drew := ⟨h.size, h.blk⟩
theorem yieldAt_lvl {P : Program} {n l : Nat} (m : Nat) {args : Array Value} {W : World} {R : Ending → World → Prop} (h : YieldAt Fence.wide n P l args W R) : YieldAt Fence.wide m P l args W R := by
  obtain ⟨fn, tmps, assign, body, hy, hr⟩ := h
  refine ⟨fn, tmps, assign, body, hy, trivial, fun c cs _ => ?_⟩
  obtain ⟨e, w', r, s⟩ := hr.2 c cs (room_wide _)
  exact ⟨e, w', r, s⟩
theorem keepsFrom_below {W W' : World} (h : Below W.heap.size W W') : KeepsFrom 0 W W' := ⟨h.size, fun k _ _ e _ => (h.block k (Array.getElem?_eq_some_iff.1 e).1).trans e⟩
set_option maxRecDepth 100000 in
set_option maxHeartbeats 4000000 in
theorem ptf_hands {w : World} {ao : Option Addr} {n cap B1 : Nat} {P T D : Nat → Int} {S : Nat → Prop} (ht : okT n P T D) (hS : ∀ b, S b → b < w.heap.size)
    (hk : ∀ V, KpC S w V → V.cell? ⟨B1, 0, none⟩ = some (.slice ao n cap) ∧ RdA V ao 3 n cap (nds P T D)) :
    Hands2 Try.prog 37 #[.pointer (some ⟨B1, 0, none⟩)] (lvL n P).length (ptG n P) (KpC S) w := by
  intro l J Jx W hW _ hJ hJp hJx hY h0
  obtain ⟨W1, HW1⟩ : ∃ x, Hid (x = W.alloc (.cells #[.func (.yield l) #[] #[]] 62)) := ⟨_, rfl⟩
  have HB1 : Hid (Below W.heap.size W W1) := by rw [HW1.out]; exact fresh_alloc _ _
  have HZ1 : Hid (W1.heap.size = W.heap.size + 1) := by show _ = _; rw [HW1.out]; simp
  have HYB : Hid (W1.heap[W.heap.size]? = some (.cells #[.func (.yield l) #[] #[]] 62 (0, 0))) := by show _ = _; rw [HW1.out]; exact Go.Deep.blk_alloc_new _ _
  have HKW : Hid (KpC S w W1) := (KpC.of_below hW).trans (KpC.of_below HB1.out)
  have HK := hidd hk
  have c1 := (hk W1 HKW.out).1
  rw [HW1.out] at c1
  have HLV := hidd (leaves_any ht (hk W1 HKW.out).2)
  have HJ := hidd hJ
  have HJP := hidd hJp
  have HJX := hidd hJx
  have HY := hidd hY
  have H0 := hidd h0
  have HT := hidd ht
  have HWS := hidd hW.size
  have HS := hidd hS
  clear hJ hJp hJx hY h0 hk ht hW hS
  refine callsIn_of_wp_marks Try.func37 rfl trivial ?_ rfl
  simp only [Try.ntmps37, List.size_toArray, List.length_cons, List.length_nil, Nat.reduceAdd, Nat.reduceSub, Array.replicate_succ, Array.replicate_zero, List.push_toArray, List.append_toArray, List.nil_append, List.cons_append]
  gi_wp2_with fail
  rw [← HW1.out]
  refine ⟨trivial, ?_⟩
  gi_at_call 38
  refine (callsIn_wide.2 HLV.out).mono ?_
  rintro e w2 ⟨rfl, g1, g2, f2⟩
  have HF2 : Hid (Below W.heap.size W w2) := HB1.out.trans (f2.mono HB1.out.size)
  have HS2 : Hid (¬ S (W1.heap.size + 1)) := fun h => by have := HS.out _ h; have := HWS.out; have := HZ1.out; omega
  have HHIT := hidd (lvf_hands (S := S) HT.out g1 g2 HS2.out)
  have HKW2 : Hid (KpC S w w2) := HKW.out.trans (KpC.of_below f2)
  have HYW : Hid (∀ V, KpC S w2 V → V.cell? ⟨W.heap.size, 0, none⟩ = some (.func (.yield l) #[] #[])) := fun V hV => hV.cell (fun h => by have := HS.out _ h; have := HWS.out; omega) (by
    have := (f2.block W.heap.size (by have := HZ1.out; omega)).trans HYB.out
    unfold World.cell?
    rw [this]
    rfl)
  clear c1 g1 g2 f2
  gi_wp2_with fail
  refine wpIn_wide.2 (wpIn_wide.1 (range_hands2 (gf := 42) (lb := #[.pointer (some ⟨W1.heap.size, 0, none⟩), .pointer (some ⟨W1.heap.size + 1, 0, none⟩)]) rfl (enters_of Try.func42 (by kernel_rfl) rfl) HHIT.out KpC.trans (fun V l o o' _ hV hc => KpC.put V l o o' hV hc)
      (fun k args V h => by rw [show args = _ from h]; rfl) (fun k args V l o o' _ _ _ h => h)
      (fun k V => J k V ∧ KpC S w2 V) (fun c k V => c = .ret ∧ Jx k V) ?bears ?puts ?putsx ⟨HJ.out 0 W w2 H0.out HF2.out, KpC.refl _ _⟩
      (fun args => { tmps := #[.func (.yield l) #[] #[], .pointer (some ⟨B1, 0, none⟩), .pointer (some ⟨W.heap.size, 0, none⟩), args.getD 0 undef, .slice ao n cap, .func (.func 42) #[] #[.pointer (some ⟨W1.heap.size, 0, none⟩), .pointer (some ⟨W1.heap.size + 1, 0, none⟩)], args.getD 0 undef, undef, undef, undef, undef, undef, undef], defers := [] }) ?assign ?body ?done ?stop))
  case bears =>
    rintro k V V' ⟨h1, h2⟩ f
    exact ⟨HJ.out k V V' h1 f, h2.trans (KpC.of_below f)⟩
  case puts =>
    rintro k V l o o' hl hV hc ⟨h1, h2⟩
    exact ⟨HJP.out k V l o o' (Nat.le_trans HF2.out.size hl) hV hc h1, h2.trans (KpC.put V l o o' hV hc)⟩
  case putsx =>
    rintro c k V l o o' hl hV hc ⟨h1, h2⟩
    exact ⟨h1, HJX.out k V l o o' (Nat.le_trans HF2.out.size hl) hV hc h2⟩
  case assign =>
    rintro l' k args V K h hK
    obtain rfl := (show args = _ from h)
    gi_wp2
    exact hK
  case body =>
    rintro l' k args V hkN ⟨h1, h2⟩ h
    obtain rfl := (show args = _ from h)
    obtain ⟨i, HI⟩ : ∃ i, Hid (i = (lvL n P).getD k 0) := ⟨_, rfl⟩
    rw [← HI.out]
    simp only [show (#[Value.int .i64 (i : Int)] : Array Value).getD 0 undef = .int .i64 (i : Int) from rfl]
    have hi : i < n := by rw [HI.out]; exact lvL_lt hkN
    have HKV : Hid (KpC S w V.drew) := (HKW2.out.trans h2).drew
    obtain ⟨q1, q2⟩ := HK.out _ HKV.out
    have HWY := hidd (pway_any HT.out hi q2)
    have q0 := HYW.out V.drew h2.drew
    have HYY : Hid (∀ w3 b, w3.rowIs b 3 (wy P i).length (qF (wy P i)) → Below V.drew.heap.size V.drew w3 → YieldAt Fence.wide 0 Try.prog l #[.slice (some ⟨b, 0, none⟩) (wy P i).length (wy P i).length] w3 fun e W' => (e = .returned (.bool true) ∧ KeepsFrom w2.heap.size V W' ∧ KpC S V W' ∧ J (k + 1) W' ∧ KpC S w2 W') ∨ (e = .returned (.bool false) ∧ KeepsFrom w2.heap.size V W' ∧ Jx (k + 1) W')) := by
      intro w3 b hr hb
      have hb' : Below V.heap.size V w3 := (Below.refl _ V).drew.trans hb
      have hh := HY.out k _ w3 hkN (HJ.out k V w3 h1 hb') ⟨b, by rw [← HI.out], by rw [← HI.out]; exact hr⟩
      obtain ⟨fn, tmps, assign, body, hy, hR⟩ := yieldAt_lvl 0 hh
      refine ⟨fn, tmps, assign, body, hy, hR.mono ?_⟩
      rintro e W' ⟨kf, ⟨rfl, j1, j2⟩ | ⟨rfl, j1⟩⟩
      · exact .inl ⟨rfl, (keepsFrom_mono (keepsFrom_below hb') (Nat.zero_le _)).trans (keepsFrom_mono kf HF2.out.size), (KpC.of_below hb').trans j2, j1, h2.trans ((KpC.of_below hb').trans j2)⟩
      · exact .inr ⟨rfl, (keepsFrom_mono (keepsFrom_below hb') (Nat.zero_le _)).trans (keepsFrom_mono kf HF2.out.size), j1⟩
    clear h1 h2 h q2 hkN
    generalize (wy P i).length = m at *
    gi_wp2_with fail
    refine wpIn_region_outR (by kernel_rfl) rfl (by kernel_rfl) ?_
    refine wpAnyIn_take (i := 2) (v := ?v1) rfl rfl (by kernel_rfl) (by kernel_rfl) (by kernel_rfl) (fun _ _ _ h => h) ⟨Or.inl ⟨by rfl, ?hy1⟩, fun _ => rfl⟩ ?rest1
    case hy1 => (intro wz; go_simp; try with_reducible rfl)
    refine wpAnyIn_ready (rs := [0, 1]) (by kernel_rfl) (by simp) ?_
    refine AllReadyIn.cons rfl (fun K hK => ?_) (AllReadyIn.cons rfl (fun K hK => ?_) AllReadyIn.nil)
    · go_simp
      refine hK _ _ ?_
      clear hK K
      refine wpAnyIn_ready (rs := [1]) (by kernel_rfl) (by simp) ?_
      refine AllReadyIn.cons rfl (fun K hK => ?_) AllReadyIn.nil
      go_simp
      refine hK _ _ ?_
      clear hK K
      refine wpAnyIn_ready (rs := [3]) (by kernel_rfl) (by simp) ?_
      refine AllReadyIn.cons rfl (fun K hK => ?_) AllReadyIn.nil
      go_simp
      refine ⟨trivial, ?_⟩
      refine (callsIn_wide.2 HWY.out).mono ?_
      rintro e w3 ⟨b, rfl, _, r3, f3⟩
      have q3 := fresh_cell f3 q0
      obtain ⟨fn, tmps, assign, body, hy, hR⟩ := HYY.out w3 b r3 f3
      clear r3 f3
      refine hK _ _ ?_
      clear hK K
      refine wpAnyIn_ready (rs := [4]) (by kernel_rfl) (by simp) ?_
      refine AllReadyIn.cons rfl (fun K hK => ?_) AllReadyIn.nil
      go_simp
      refine hR.mono ?_
      clear hy hR
      rintro e W3 (⟨rfl, k1, k2, k3, k4⟩ | ⟨rfl, k1, k2⟩)
      · have HE1 := hidd k1
        have HE2 := hidd k2
        have HE3 := hidd k3
        have HE4 := hidd k4
        clear k3 k4
        clear k1 k2
        refine hK _ _ ?_
        clear hK K
        refine wpAnyIn_ready (rs := [5]) (by kernel_rfl) (by simp) ?_
        refine AllReadyIn.cons rfl (fun K hK => ?_) AllReadyIn.nil
        go_simp
        refine hK _ _ ?_
        clear hK K
        refine wpAnyIn_done (by kernel_rfl) ?_ _
        gi_wp2
        exact ⟨HE1.out, HE2.out, HE3.out, HE4.out⟩
      · have HE1 := hidd k1
        have HE2 := hidd k2
        clear k1 k2
        refine hK _ _ ?_
        clear hK K
        refine wpAnyIn_ready (rs := [5]) (by kernel_rfl) (by simp) ?_
        refine AllReadyIn.cons rfl (fun K hK => ?_) AllReadyIn.nil
        go_simp
        refine hK _ _ ?_
        clear hK K
        refine wpAnyIn_done (by kernel_rfl) ?_ _
        gi_wp2
        exact ⟨HE1.out, rfl, HE2.out⟩
    · go_simp
      refine hK _ _ ?_
      clear hK K
      refine wpAnyIn_ready (rs := [0, 3]) (by kernel_rfl) (by simp) ?_
      refine AllReadyIn.cons rfl (fun K hK => ?_) (AllReadyIn.cons rfl (fun K hK => ?_) AllReadyIn.nil)
      · go_simp
        refine hK _ _ ?_
        clear hK K
        refine wpAnyIn_ready (rs := [3]) (by kernel_rfl) (by simp) ?_
        refine AllReadyIn.cons rfl (fun K hK => ?_) AllReadyIn.nil
        go_simp
        refine ⟨trivial, ?_⟩
        refine (callsIn_wide.2 HWY.out).mono ?_
        rintro e w3 ⟨b, rfl, _, r3, f3⟩
        have q3 := fresh_cell f3 q0
        obtain ⟨fn, tmps, assign, body, hy, hR⟩ := HYY.out w3 b r3 f3
        clear r3 f3
        refine hK _ _ ?_
        clear hK K
        refine wpAnyIn_ready (rs := [4]) (by kernel_rfl) (by simp) ?_
        refine AllReadyIn.cons rfl (fun K hK => ?_) AllReadyIn.nil
        go_simp
        refine hR.mono ?_
        clear hy hR
        rintro e W3 (⟨rfl, k1, k2, k3, k4⟩ | ⟨rfl, k1, k2⟩)
        · have HE1 := hidd k1
          have HE2 := hidd k2
          have HE3 := hidd k3
          have HE4 := hidd k4
          clear k3 k4
          clear k1 k2
          refine hK _ _ ?_
          clear hK K
          refine wpAnyIn_ready (rs := [5]) (by kernel_rfl) (by simp) ?_
          refine AllReadyIn.cons rfl (fun K hK => ?_) AllReadyIn.nil
          go_simp
          refine hK _ _ ?_
          clear hK K
          refine wpAnyIn_done (by kernel_rfl) ?_ _
          gi_wp2
          exact ⟨HE1.out, HE2.out, HE3.out, HE4.out⟩
        · have HE1 := hidd k1
          have HE2 := hidd k2
          clear k1 k2
          refine hK _ _ ?_
          clear hK K
          refine wpAnyIn_ready (rs := [5]) (by kernel_rfl) (by simp) ?_
          refine AllReadyIn.cons rfl (fun K hK => ?_) AllReadyIn.nil
          go_simp
          refine hK _ _ ?_
          clear hK K
          refine wpAnyIn_done (by kernel_rfl) ?_ _
          gi_wp2
          exact ⟨HE1.out, rfl, HE2.out⟩
      · go_simp
        refine ⟨trivial, ?_⟩
        refine (callsIn_wide.2 HWY.out).mono ?_
        rintro e w3 ⟨b, rfl, _, r3, f3⟩
        have q3 := fresh_cell f3 q0
        obtain ⟨fn, tmps, assign, body, hy, hR⟩ := HYY.out w3 b r3 f3
        clear r3 f3
        refine hK _ _ ?_
        clear hK K
        refine wpAnyIn_ready (rs := [0]) (by kernel_rfl) (by simp) ?_
        refine AllReadyIn.cons rfl (fun K hK => ?_) AllReadyIn.nil
        go_simp
        refine hK _ _ ?_
        clear hK K
        refine wpAnyIn_ready (rs := [4]) (by kernel_rfl) (by simp) ?_
        refine AllReadyIn.cons rfl (fun K hK => ?_) AllReadyIn.nil
        go_simp
        refine hR.mono ?_
        clear hy hR
        rintro e W3 (⟨rfl, k1, k2, k3, k4⟩ | ⟨rfl, k1, k2⟩)
        · have HE1 := hidd k1
          have HE2 := hidd k2
          have HE3 := hidd k3
          have HE4 := hidd k4
          clear k3 k4
          clear k1 k2
          refine hK _ _ ?_
          clear hK K
          refine wpAnyIn_ready (rs := [5]) (by kernel_rfl) (by simp) ?_
          refine AllReadyIn.cons rfl (fun K hK => ?_) AllReadyIn.nil
          go_simp
          refine hK _ _ ?_
          clear hK K
          refine wpAnyIn_done (by kernel_rfl) ?_ _
          gi_wp2
          exact ⟨HE1.out, HE2.out, HE3.out, HE4.out⟩
        · have HE1 := hidd k1
          have HE2 := hidd k2
          clear k1 k2
          refine hK _ _ ?_
          clear hK K
          refine wpAnyIn_ready (rs := [5]) (by kernel_rfl) (by simp) ?_
          refine AllReadyIn.cons rfl (fun K hK => ?_) AllReadyIn.nil
          go_simp
          refine hK _ _ ?_
          clear hK K
          refine wpAnyIn_done (by kernel_rfl) ?_ _
          gi_wp2
          exact ⟨HE1.out, rfl, HE2.out⟩
  case done =>
    rintro D V hD ⟨h1, h2⟩ hd
    gi_wp2
    refine leaves_marks (B := W.heap.size) (fun V => J (lvL n P).length V) (fun V D hD hV h => HJP.out _ V D _ _ hD hV rfl h) (fun V h => ?_) [D] _ (by simp) (fun E hE => by obtain rfl : E = D := (by simpa using hE); exact ⟨Nat.le_trans HF2.out.size hD, hd⟩) h1
    exact ⟨_, results_none rfl _ _ _, ⟨_, rfl⟩, .inl h⟩
  case stop =>
    rintro D c k V hD hk ⟨rfl, h1⟩ hd
    gi_wp2
    refine leaves_marks (B := W.heap.size) (fun V => Jx k V) (fun V D hD hV h => HJX.out _ V D _ _ hD hV rfl h) (fun V h => ?_) [D] _ (by simp) (fun E hE => by obtain rfl : E = D := (by simpa using hE); exact ⟨Nat.le_trans HF2.out.size hD, hd⟩) h1
    exact ⟨_, results_none rfl _ _ _, ⟨_, rfl⟩, .inr ⟨k, hk, h⟩⟩
end Go.Proofs.Ytakekdbclmgeoaa
