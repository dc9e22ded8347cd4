import Derived.Test.YtakekdbclmgeoabCqL
namespace Go.Proofs.Ytakekdbclmgeoab
open Go.RowKit
/-! TreeUnion: the law. -/
theorem own_ptr {w : World} {base : Nat} {e : TypeId} {sz n c : Nat} {u : Option Addr} {cs : Nat → Value} (h : Own w base e sz (.slice u n c) n cs) (hn : 1 ≤ n) : ∃ b, u = some ⟨b, 0, none⟩ := by
  rcases h.2 with ⟨e1, _⟩ | ⟨k, cap, cur, e1, _⟩
  · cases e1; omega
  · cases e1; exact ⟨_, rfl⟩
set_option maxRecDepth 20000 in
set_option maxHeartbeats 4000000 in
theorem union_law {w : World} {ao : Option Addr} {m cap : Nat} {X : Nat → List (Int × Int)} {A : Nat → Option Addr} {C : Nat → Nat} (h : Rl w ao m cap X A C) (hm : m ≤ 1048576) (ht : (jn X m).length ≤ 1048576) (hp : ∀ i, i < m → ∀ j, j < (X i).length → ((X i).getD j (0, 0)).1 ≤ 9223372036854775807) {v most : Int} (hv : fits v) :
    Calls Try.prog 5 #[.slice ao m cap, .int .i64 v, .int .i64 most] w fun e w' => e = .returned (.bool true) ∧ Below w.heap.size w w' := by
  have HH := hidd h
  have HT := hidd ht
  have HXL : Hid (∀ i, i < m → (X i).length ≤ (jn X m).length) := fun i hi => by
    have := jn_mono X (m - (i + 1)) (i + 1)
    rw [show i + 1 + (m - (i + 1)) = m by omega, jn_len] at this
    omega
  have HJL : Hid (∀ i, i ≤ m → (jn X i).length ≤ 1048576) := fun i hi => by have := jn_mono X (m - i) i; rw [show i + (m - i) = m by omega] at this; omega
  have HMEM : Hid (∀ L, L ∈ wsOf (jn X m) v ↔ ∃ i, i < m ∧ L ∈ wsOf (X i) v) := fun L => jn_ws ht hp L
  have K1 := hidd (lives_any w)
  clear h ht hp
  go_enter Try.func5, Try.ntmps5
  go_wp2_with (go_at_call 12; with_reducible refine K1.out.mono ?_; rintro e w1 ⟨rfl, hb1⟩; have B1 := hidd hb1; clear K1 hb1)
  go_loopw [8, 9, 10] (fun s8 s9 s10 wr => ∃ i : Nat, i ≤ m ∧ s10 = .int .i64 i ∧ (∃ a : Nat, s9 = .int .i64 a ∧ Hid (a = (jn X i).length)) ∧ (∃ u c, s8 = .slice u i c ∧ Hid (∃ U C', Own wr w.heap.size 22 1 (.slice u i c) i (csf X U C') ∧ Cp w wr X U C' i)) ∧ Hid (Below w.heap.size w wr)) (fun _ _ s10 _ => m - (intOf s10).toNat)
  case atStart => exact ⟨0, by omega, rfl, ⟨0, rfl, rfl⟩, ⟨none, 0, rfl, fun _ => none, fun _ => 0, own_nil _ _ _ _ _, fun j hj => absurd hj (by omega)⟩, B1⟩
  case round =>
    obtain ⟨i, hi, rfl, ⟨a, rfl, HA⟩, ⟨u, c, rfl, HUC⟩, HB⟩ := hrel
    have hsz := HB.out.size
    by_cases hlt : i < m
    · have d2 : (i : Int) < (m : Int) := by omega
      have d1 : decide ((i : Int) < (m : Int)) = true := decide_eq_true d2
      obtain ⟨b1, o1, hu, h1⟩ := (HH.out.out.fresh HB.out).one (by omega)
      subst hu
      have c1 : wr.cell? ⟨b1, o1 + i, none⟩ = some (.slice (A i) (X i).length (C i)) := h1 i hlt
      have HC1 : Hid (∀ wr, Below w.heap.size w wr → wr.cell? ⟨b1, o1 + i, none⟩ = some (.slice (A i) (X i).length (C i))) := fun wr hf => by
        obtain ⟨b9, o9, e9, h9⟩ := (HH.out.out.fresh hf).one (by omega)
        cases e9
        exact h9 i hlt
      have HSP := hidd (copyR_any ((HH.out.inn i hlt).fresh HB.out) (by have := HXL.out i hlt; have := HT.out; omega))
      have HHX : Hid (∀ (w2 : World) (u2 : Option Addr) (c2 : Nat), Own w2 wr.heap.size 41 2 (.slice u2 (X i).length c2) (X i).length (rwF (X i)) → Below wr.heap.size wr w2 → ∃ U' C', Hid (Own w2 w.heap.size 22 1 (.slice u i c) i (csf X U' C')) ∧ Hid (∀ (w0 : World) (t : TypeId), (w0.alloc (.cells #[.slice u2 (X i).length c2] t)).cell? ⟨w0.heap.size, 0, none⟩ = some (csf X U' C' i)) ∧ Hid (Cp w w2 X U' C' (i + 1)) ∧ Hid (Below w.heap.size w w2) ∧ w.heap.size ≤ w2.heap.size) := by
        intro w2 u2 c2 ho hb
        obtain ⟨U, C', hO, hM⟩ := HUC.out
        refine ⟨fun j => if j = i then u2 else U j, fun j => if j = i then c2 else C' j, ?_, ?_, ?_, HB.out.trans (hb.mono hsz), by have := hb.size; omega⟩
        · refine (hO.kept hb).congr (fun j hj => ?_)
          have hji : ¬ j = i := by omega
          unfold csf
          dsimp only
          rw [if_neg hji, if_neg hji]
        · intro w0 t
          rw [new_cell]
          unfold csf
          dsimp only
          rw [if_pos rfl, if_pos rfl]
        · intro j hj
          by_cases e : j = i
          · subst e
            dsimp only
            rw [if_pos rfl, if_pos rfl]
            exact ho.weaken hsz
          · dsimp only
            rw [if_neg e, if_neg e]
            exact (hM j (by omega)).kept hb
      have HJ1 := hidd (jn_len X i)
      have hj1 := HJL.out (i + 1) (by omega)
      rw [HJ1.out, ← HA.out] at hj1
      obtain ⟨n, HN⟩ : ∃ n, Hid (n = (X i).length) := ⟨_, rfl⟩
      rw [← HN.out] at c1 HC1 HSP HHX hj1
      clear h1
      go_wp2_with (first
        | (go_at_call 13; with_reducible refine HSP.out.mono ?_; rintro e w2 ⟨u2, c2, rfl, ho, hb⟩; obtain ⟨U', C', HO2, HX, HM2, HB2, hsz2⟩ := HHX.out w2 u2 c2 ho hb; clear ho hb HSP HHX)
        | (at_builtin; refine wpList_app1 _ rfl _ _ 42 rfl w.heap.size 22 (.slice none 0 0) 24 Try.underlying42 infoSR rfl _ i (csf X U' C') rfl (HO2.out.kept (fresh_alloc _ _)) _ 1 rfl (HX.out _ _) rfl (by omega) (by omega) (by simp; omega) ?_))
      intro v' w3 hown' happ
      have HF3 := hidd (happ.below (HB2.out.alloc hsz2 _) (HO2.out.kept (fresh_alloc _ _)) (Nat.le_refl _) (by simp; omega))
      obtain ⟨u3, c3, rfl, _⟩ := hown'.rd
      have HFI : Hid (∃ U C', Own w3 w.heap.size 22 1 (.slice u3 (i + 1) c3) (i + 1) (csf X U C') ∧ Cp w w3 X U C' (i + 1)) := ⟨U', C', hown', fun j hj => happ.own ((HM2.out j hj).kept (fresh_alloc _ _)) (own_off HO2.out (HM2.out j hj) (by decide))⟩
      have c2 := HC1.out w3 HF3.out
      clear happ hown' HO2 HX HM2 HB2
      go_wp2
      go_roundw
      case rel => exact ⟨i + 1, by omega, by go_num, ⟨a + n, by go_num, by rw [HJ1.out, ← HA.out, ← HN.out]; exact rfl⟩, ⟨u3, c3, rfl, HFI⟩, HF3⟩
      case measure => simp [intOf]; omega
    · obtain rfl : i = m := by omega
      obtain ⟨U, C', hO, hM⟩ := HUC.out
      have HRI : Hid (Rl wr u i c X U C') := ⟨own_rda hO, fun j hj => own_rda (hM j hj)⟩
      have HJN := hidd (join_any HRI.out hm HT.out)
      obtain ⟨J, HJ⟩ : ∃ J, Hid (J = jn X i) := ⟨_, rfl⟩
      rw [← HJ.out] at HJN HT HXL HMEM HA
      obtain rfl : a = J.length := HA.out
      obtain ⟨n, HN⟩ : ∃ n, Hid (n = J.length) := ⟨_, rfl⟩
      rw [← HN.out] at HJN HT HXL ⊢
      have hn := HT.out
      clear hO hM HUC HRI HJL HA
      have d0 : ¬ (i : Int) < (i : Int) := by omega
      by_cases hb : 96 < n
      · have d3 : decide ((96 : Int) < (n : Int)) = true := decide_eq_true (by omega)
        have d4 : (96 : Int) < (n : Int) := by omega
        go_wp2_with (first
          | (go_at_call 20; with_reducible refine HJN.out.mono ?_; rintro e w2 ⟨u2, c2, rfl, ho2, hb2⟩; have B2 := hidd (HB.out.trans (hb2.mono HB.out.size)); have K3 := hidd (clean_bad (w := w2) (ao := u2) (cap := c2) 3 v hb); clear HJN hb2 ho2)
          | (go_at_call 8; with_reducible refine K3.out.mono ?_; rintro e w3 ⟨rfl, hb3⟩; have B3 := hidd (B2.out.trans (hb3.mono B2.out.size)); clear K3 hb3))
        go_ret
        exact ⟨rfl, B3.out⟩
      have hJ96 : J.length ≤ 96 := by have := HN.out; omega
      obtain ⟨WS, mT, hCl⟩ := cl_mk J v hJ96
      have HCL := hidd hCl
      have KC : Hid (∀ (w1 : World) (u1 : Option Addr) (c1 : Nat), RdA w1 u1 2 n c1 (rwF J) → Calls Try.prog 8 #[.int .i64 3, .slice u1 n c1, .int .i64 v] w1 fun e w' => ∃ u c, e = .returned (.tuple #[.slice u mT c, .int .i64 0]) ∧ RdA w' u 3 mT c (nds (rcP WS) (rcT 3 WS) (rcD WS)) ∧ Below w1.heap.size w1 w') := fun w1 u1 c1 hr => by
        rw [HN.out] at hr ⊢
        exact hCl.clean hJ96 hv hr
      have hm1 : 1 ≤ mT := by have := hCl.m; omega
      have hm2 : mT ≤ 32 := by have := hCl.m; omega
      obtain ⟨VS, HVS⟩ : ∃ x, Hid (x = tkW (rcP WS) (rcT 3 WS) (mT - 1)) := ⟨_, rfl⟩
      have KWT : Hid (∀ (w1 : World) (u1 : Option Addr) (c1 : Nat), RdA w1 u1 3 mT c1 (nds (rcP WS) (rcT 3 WS) (rcD WS)) → Calls Try.prog 18 #[.slice u1 mT c1] w1 (WtA VS w1)) := fun w1 u1 c1 hr => by
        rw [HVS.out]
        exact wayst_any hCl.ok hr
      have HTK : Hid (∀ L, L ∈ VS → L ∈ wsOf J v) := fun L hL => by rw [HVS.out] at hL; have := hCl.tk L hL; rw [hCl.ws] at this; exact this
      have HAL : Hid (mT < 32 → ∀ L, L ∈ wsOf J v → L ∈ VS) := fun h L hL => by rw [HVS.out]; exact hCl.all h L (by rw [hCl.ws]; exact hL)
      have HOT := hidd hCl.ok
      clear hCl HCL
      obtain ⟨P, HP⟩ : ∃ x, Hid (x = rcP WS) := ⟨_, rfl⟩
      obtain ⟨T, HTT⟩ : ∃ x, Hid (x = rcT 3 WS) := ⟨_, rfl⟩
      obtain ⟨D, HD⟩ : ∃ x, Hid (x = rcD WS) := ⟨_, rfl⟩
      rw [← HP.out, ← HTT.out, ← HD.out] at KC KWT HOT
      clear HVS HP HTT HD
      have d3 : ¬ (96 : Int) < (n : Int) := by omega
      go_wp2_with (first
        | (go_at_call 20; with_reducible refine HJN.out.mono ?_; rintro e w2 ⟨u2, c2, rfl, ho2, hb2⟩; have B2 := hidd (HB.out.trans (hb2.mono HB.out.size)); have K3 := hidd (KC.out w2 u2 c2 (own_rda ho2)); clear HJN hb2 ho2 KC)
        | (go_at_call 8; with_reducible refine K3.out.mono ?_; rintro e w3 ⟨ut, ct, rfl, hr, hb3⟩; have B3 := hidd (B2.out.trans (hb3.mono B2.out.size)); have T3 := hidd hr; have K4 := hidd (KWT.out w3 ut ct hr); clear K3 hb3 hr KWT)
        | (go_at_call 18; with_reducible refine K4.out.mono ?_; rintro e w4 k4; obtain ⟨aV, cV, UV, KV, rfl, qV, hb4⟩ := k4.out; clear k4; have M4 := hidd qV; have B4 := hidd (B3.out.trans (hb4.mono B3.out.size)); have T4 := hidd (T3.out.fresh hb4); clear K4 qV hb4 T3))
      clear HB B1 B2 B3
      obtain ⟨nv, HNV⟩ : ∃ x, Hid (x = VS.length) := ⟨_, rfl⟩
      go_loopw [15, 16, 17] (fun s15 _ _ wq => ∃ k : Nat, k ≤ i ∧ s15 = .int .i64 k ∧ Hid (Below w4.heap.size w4 wq)) (fun s15 _ _ _ => i - (intOf s15).toNat)
      case atStart => exact ⟨0, by omega, rfl, Below.refl _ _⟩
      case round =>
        obtain ⟨k, hk, rfl, HF⟩ := hrel
        have HFW := hidd (B4.out.trans (HF.out.mono B4.out.size))
        by_cases hki : k < i
        · have e2 : (k : Int) < (i : Int) := by omega
          obtain ⟨b1, o1, hu1, h1⟩ := (HH.out.out.fresh HFW.out).one (by omega)
          subst hu1
          have c1 := h1 k hki
          have hxk := HXL.out k hki
          have hx96 : (X k).length ≤ 96 := by omega
          have K5 := hidd (copyR_any ((HH.out.inn k hki).fresh HFW.out) (by omega))
          obtain ⟨WK, mK, hCk⟩ := cl_mk (X k) v hx96
          have K6 : Hid (∀ (w1 : World) (u1 : Option Addr) (c1 : Nat), RdA w1 u1 2 (X k).length c1 (rwF (X k)) → Calls Try.prog 8 #[.int .i64 3, .slice u1 (X k).length c1, .int .i64 v] w1 fun e w' => ∃ u c, e = .returned (.tuple #[.slice u mK c, .int .i64 0]) ∧ RdA w' u 3 mK c (nds (rcP WK) (rcT 3 WK) (rcD WK)) ∧ Below w1.heap.size w1 w') := fun w1 u1 c1 hr => hCk.clean hx96 hv hr
          have K7 : Hid (∀ (w1 : World) (u1 : Option Addr) (c1 : Nat), RdA w1 u1 3 mK c1 (nds (rcP WK) (rcT 3 WK) (rcD WK)) → Calls Try.prog 18 #[.slice u1 mK c1] w1 (WtA (tkW (rcP WK) (rcT 3 WK) (mK - 1)) w1)) := fun w1 u1 c1 hr => wayst_any hCk.ok hr
          have HIN : Hid (mT < 32 → ∀ L ∈ tkW (rcP WK) (rcT 3 WK) (mK - 1), L ∈ VS) := fun h L hL => HAL.out h L ((HMEM.out L).2 ⟨k, hki, by have := hCk.tk L hL; rw [hCk.ws] at this; exact this⟩)
          obtain ⟨VK, HVK⟩ : ∃ x, Hid (x = tkW (rcP WK) (rcT 3 WK) (mK - 1)) := ⟨_, rfl⟩
          rw [← HVK.out] at K7 HIN
          obtain ⟨P', HP⟩ : ∃ x, Hid (x = rcP WK) := ⟨_, rfl⟩
          obtain ⟨T', HTT⟩ : ∃ x, Hid (x = rcT 3 WK) := ⟨_, rfl⟩
          obtain ⟨D', HD⟩ : ∃ x, Hid (x = rcD WK) := ⟨_, rfl⟩
          rw [← HP.out, ← HTT.out, ← HD.out] at K6 K7
          obtain ⟨nk, HNK⟩ : ∃ x, Hid (x = (X k).length) := ⟨_, rfl⟩
          obtain ⟨XK, HXK⟩ : ∃ x, Hid (x = X k) := ⟨_, rfl⟩
          rw [← HNK.out] at c1 K5 K6
          rw [← HXK.out] at K5 K6
          clear h1 hCk HP HTT HD HVK
          by_cases hT : mT < 32
          · have f1 : (mT : Int) < 32 := by omega
            go_wp2_with (first
              | (go_at_call 13; with_reducible refine K5.out.mono ?_; rintro e w5 ⟨u5, c5, rfl, ho, hb5⟩; have F5 := hidd (HF.out.trans (hb5.mono HF.out.size)); have K8 := hidd (K6.out w5 u5 c5 (own_rda ho)); clear K5 hb5 ho K6)
              | (go_at_call 8; with_reducible refine K8.out.mono ?_; rintro e w6 ⟨u6, c6, rfl, hr, hb6⟩; have F6 := hidd (F5.out.trans (hb6.mono F5.out.size)); have K9 := hidd (K7.out w6 u6 c6 hr); clear K8 hb6 hr K7)
              | (go_at_call 18; with_reducible refine K9.out.mono ?_; rintro e w7 k7; obtain ⟨aK, cK, UK, KK, rfl, qK, hb7⟩ := k7.out; clear k7; have F7 := hidd (F6.out.trans (hb7.mono F6.out.size)); have K10 := hidd (within_any qK (M4.out.kept F7.out) (HIN.out hT)); clear K9 qK hb7)
              | (go_at_call 19; with_reducible refine K10.out.mono ?_; rintro e w8 ⟨rfl, hb8⟩; have F8 := hidd (F7.out.trans (hb8.mono F7.out.size)); clear K10 hb8))
            go_roundw
            case rel => exact ⟨k + 1, by omega, by go_num, F8⟩
            case measure => simp [intOf]; omega
          · have f1 : ¬ (mT : Int) < 32 := by omega
            go_wp2_with (first
              | (go_at_call 13; with_reducible refine K5.out.mono ?_; rintro e w5 ⟨u5, c5, rfl, ho, hb5⟩; have F5 := hidd (HF.out.trans (hb5.mono HF.out.size)); have K8 := hidd (K6.out w5 u5 c5 (own_rda ho)); clear K5 hb5 ho K6)
              | (go_at_call 8; with_reducible refine K8.out.mono ?_; rintro e w6 ⟨u6, c6, rfl, hr, hb6⟩; have F6 := hidd (F5.out.trans (hb6.mono F5.out.size)); clear K8 hb6 hr K7))
            go_roundw
            case rel => exact ⟨k + 1, by omega, by go_num, F6⟩
            case measure => simp [intOf]; omega
        · obtain rfl : k = i := by omega
          have M5 := hidd (M4.out.kept HF.out)
          have T5 := hidd (T4.out.fresh HF.out)
          have HVR := hidd (own_rda M5.out.own)
          have HVA : Hid (∀ j, j < VS.length → RdA wr (UV j) 1 (wAt VS j).length (KV j) (lF (wAt VS j))) := fun j hj => own_rda (M5.out.at_ j hj)
          have HTV : Hid (∀ j, j < VS.length → ∃ q, q < k ∧ wAt VS j ∈ wsOf (X q) v) := fun j hj => (HMEM.out _).1 (HTK.out _ (by rw [wAt_lt hj]; exact List.getElem_mem _))
          rw [← HNV.out] at HVR HVA HTV ⊢
          have hnv : nv ≤ 9223372036854775807 := by have := HVR.out.le; have := HVR.out.top; unfold maxLen at this; omega
          clear M4 T4 M5 HTK HMEM HAL HF B4
          have d5 : ¬ (k : Int) < (k : Int) := by omega
          go_wp2
          go_loopw [18, 19, 20] (fun s18 _ _ wq => ∃ j : Nat, j ≤ nv ∧ s18 = .int .i64 j ∧ Hid (Below wr.heap.size wr wq)) (fun s18 _ _ _ => nv - (intOf s18).toNat)
          case atStart => exact ⟨0, by omega, rfl, Below.refl _ _⟩
          case round =>
            obtain ⟨j, hj, rfl, HG⟩ := hrel
            have HGW := hidd (HFW.out.trans (HG.out.mono HFW.out.size))
            by_cases hjn : j < nv
            · have e2 : (j : Int) < (nv : Int) := by omega
              have e0 : (0 : Int) ≤ (j : Int) := by omega
              have HTJ := hidd (HTV.out j hjn)
              have HVJ := hidd (HVA.out j hjn)
              obtain ⟨L, HLL⟩ : ∃ x, Hid (x = wAt VS j) := ⟨_, rfl⟩
              rw [← HLL.out] at HTJ HVJ
              go_wp2
              go_loopw [19, 20] (fun s19 s20 wq => ∃ (q : Nat) (bb : Bool), q ≤ k ∧ s20 = .int .i64 q ∧ s19 = .bool bb ∧ Hid (bb = false → ∀ q', q' < q → L ∉ wsOf (X q') v) ∧ Hid (Below wr.heap.size wr wq)) (fun _ s20 _ => k - (intOf s20).toNat)
              case atStart => exact ⟨0, false, by omega, rfl, rfl, fun _ q' hq => absurd hq (by omega), Below.refl _ _⟩
              case round =>
                obtain ⟨q, bb, hq, rfl, rfl, HNO, HQ⟩ := hrel
                have HQW := hidd (HGW.out.trans (HQ.out.mono HGW.out.size))
                have HGQ := hidd (HG.out.trans (HQ.out.mono HG.out.size))
                cases bb with
                | true =>
                  by_cases hqk : q < k
                  · have g2 : (q : Int) < (k : Int) := by omega
                    go_wp2
                    go_roundw
                    case rel => exact ⟨j + 1, by omega, by go_num, HGQ⟩
                    case measure => simp [intOf]; omega
                  · have g2 : ¬ (q : Int) < (k : Int) := by omega
                    go_wp2
                    go_roundw
                    case rel => exact ⟨j + 1, by omega, by go_num, HGQ⟩
                    case measure => simp [intOf]; omega
                | false =>
                  by_cases hqk : q < k
                  · have g2 : (q : Int) < (k : Int) := by omega
                    have g0 : (0 : Int) ≤ (q : Int) := by omega
                    obtain ⟨b1, o1, hu1, h1⟩ := (HH.out.out.fresh HQW.out).one (by omega)
                    subst hu1
                    obtain ⟨b2, o2, hu2, h2⟩ := (HVR.out.fresh HGQ.out).one (by omega)
                    subst hu2
                    have c1 := h1 q hqk
                    have c2 := h2 j hjn
                    unfold wsC at c2
                    rw [← HLL.out] at c2
                    have hxq := HXL.out q hqk
                    have K1 : Hid (∀ w1, Below wr.heap.size wr w1 → Calls Try.prog 17 #[.slice (A q) (X q).length (C q), .int .i64 v] w1 (WtA (wsOf (X q) v) w1)) := fun w1 f1 => (ways_any (v := v) (show (X q).length ≤ 96 by omega) (((HH.out.inn q hqk).fresh HQW.out).fresh f1)).mono (fun e w' q => q)
                    have K3 : Hid (∀ w0 w1 a c U K, Below wr.heap.size wr w1 → WsM w1 w0 (.slice a (wsOf (X q) v).length c) (wsOf (X q) v) U K → Calls Try.prog 21 #[.slice a (wsOf (X q) v).length c, .slice (UV j) L.length (KV j)] w1 fun e w' => ∃ b2, e = .returned (.bool b2) ∧ (b2 = false → ∀ q', q' < q + 1 → L ∉ wsOf (X q') v) ∧ Below w1.heap.size w1 w') := fun w0 w1 a c U K f1 hw => (has_any hw ((HVJ.out.fresh HGQ.out).fresh f1)).mono (fun e w' z => by
                      obtain ⟨z1 | z1, z2⟩ := z
                      · exact ⟨true, z1.2, (fun h => nomatch h), z2⟩
                      · refine ⟨false, z1.2, fun _ q' hq' => ?_, z2⟩
                        by_cases eq : q' = q
                        · rw [eq]; exact z1.1
                        · exact HNO.out rfl q' (by omega))
                    obtain ⟨nq, HNQ⟩ : ∃ x, Hid (x = (X q).length) := ⟨_, rfl⟩
                    rw [← HNQ.out] at c1 K1
                    clear h1 h2
                    go_wp2
                    go_region_with (first
                      | (go_at_call 17; with_reducible refine (K1.out _ (Below.refl _ _).drew).mono ?_; rintro e w7 k7; obtain ⟨aK, cK, UK, KK, rfl, qK, hb7⟩ := k7.out; clear k7; have FQ := hidd (fresh_trans (Below.refl _ _).drew hb7); have c3 := fresh_cell FQ.out c2; have K4 := hidd (K3.out _ w7 aK cK UK KK FQ.out qK); clear qK hb7)
                      | (go_at_call 21; with_reducible refine K4.out.mono ?_; rintro e w8 ⟨b9, rfl, HN9, hb8⟩; have HN8 := hidd HN9; have F8 := hidd (HQ.out.trans ((fresh_trans FQ.out hb8).mono HQ.out.size)); clear K4 hb8 HN9))
                    all_goals (
                      go_wp2
                      go_roundw
                      case rel => exact ⟨q + 1, b9, by omega, by go_num, rfl, HN8, F8⟩
                      case measure => simp [intOf]; omega)
                  · exfalso
                    obtain ⟨q', h1, h2⟩ := HTJ.out
                    exact HNO.out rfl q' (by omega) h2
            · obtain rfl : j = nv := by omega
              have d6 : ¬ (j : Int) < (j : Int) := by omega
              have T6 := hidd (T5.out.fresh HG.out)
              have K20 := hidd (copyN_any T6.out (by omega))
              by_cases hmo : most < 1
              · go_wp2_with (first
                  | (go_at_call 15; with_reducible refine K20.out.mono ?_; rintro e w5 ⟨u5, c5, rfl, ho, hb5⟩; have F5 := hidd (HGW.out.trans (hb5.mono HGW.out.size)); have K21 := hidd (cut_arg (own_rda ho) HOT.out hmo); clear K20 ho hb5)
                  | (go_at_call 22; with_reducible refine K21.out.mono ?_; rintro e w6 ⟨rfl, hb6⟩; have F6 := hidd (F5.out.trans (hb6.mono F5.out.size)); clear K21 hb6))
                go_ret
                exact ⟨rfl, F6.out⟩
              · obtain ⟨mc, HMC⟩ : ∃ mc : Nat, Hid ((mc : Int) = min most (mT : Int)) := ⟨(min most (mT : Int)).toNat, by show ((_ : Nat) : Int) = _; omega⟩
                have mc1 : 1 ≤ mc := by have := HMC.out; omega
                have mc2 : mc ≤ mT := by have := HMC.out; omega
                have hmo2 : 1 ≤ most := by omega
                have HOC : Hid (okT mc P T D) := by
                  have o := HOT.out
                  exact ⟨mc1, by omega, o.2.2.1, o.2.2.2.1, fun i h1 h2 => o.2.2.2.2 i h1 (by omega)⟩
                have hmin := min2' (a := most) (b := (mT : Int)) (m := (mc : Int)) HMC.out
                have ctl := T6.out.le
                have z1 : (mc : Int) ≤ (ct : Int) := by omega
                have z0 : (0 : Int) ≤ (mc : Int) := by omega
                have z2 : mc ≤ ct := by omega
                have HCUT : Hid (∀ (w5 : World) (b0 : Nat) (u5 : Option Addr) (c5 : Nat), Own w5 b0 35 3 (.slice u5 mT c5) mT (nds P T D) → Calls Try.prog 22 #[.slice u5 mT c5, .int .i64 most] w5 fun e w' => ∃ u c, e = .returned (.tuple #[.slice u mc c, .int .i64 0]) ∧ RdA w' u 3 mc c (nds P T D) ∧ Below w5.heap.size w5 w') := fun w5 b0 u5 c5 ho => by
                  obtain ⟨b, rfl⟩ := own_ptr ho (by omega)
                  refine (cut_ok (own_rda ho) HOT.out hmo2 HMC.out).mono (fun e w' q => ?_)
                  obtain ⟨u, c, e1, o, b⟩ := q
                  exact ⟨u, c, e1, own_rda o, b⟩
                go_wp2_with (first
                  | (go_at_call 15; with_reducible refine K20.out.mono ?_; rintro e w5 ⟨u5, c5, rfl, ho, hb5⟩; have F5 := hidd hb5; have K21 := hidd (HCUT.out w5 _ u5 c5 ho); clear K20 ho hb5)
                  | (go_at_call 22; with_reducible refine K21.out.mono ?_; rintro e w6 ⟨u6, c6, rfl, hr, hb6⟩; have F6 := hidd (fresh_trans F5.out hb6); have R6 := hidd hr; have K22 := hidd (copyN_any hr (by omega)); clear K21 hb6 hr)
                  | (go_at_call 15; with_reducible refine K22.out.mono ?_; rintro e w7 ⟨u7, c7, rfl, ho, hb7⟩; have F7 := hidd (fresh_trans F6.out hb7); have R7 := hidd (R6.out.fresh hb7); have K23 := hidd (check_any (own_rda ho)); rw [erT_ok HOC.out] at K23; clear K22 hb7 ho)
                  | (go_at_call 14; with_reducible refine K23.out.mono ?_; rintro e w8 ⟨rfl, hb8⟩; have F8 := hidd (fresh_trans F7.out hb8); have K24 := hidd (eqNodes_same (R7.out.fresh hb8) ((T6.out.fresh F8.out).firsts mc2)); clear K23 hb8)
                  | (go_at_call 10; with_reducible refine K24.out.mono ?_; rintro e w9 ⟨rfl, hb9⟩; have F9 := hidd (fresh_trans F8.out hb9); clear K24 hb9))
                go_ret
                exact ⟨rfl, HGW.out.trans (F9.out.mono HGW.out.size)⟩
end Go.Proofs.Ytakekdbclmgeoab
