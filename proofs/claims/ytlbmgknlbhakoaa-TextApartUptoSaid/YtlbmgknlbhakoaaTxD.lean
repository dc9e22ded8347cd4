import Derived.Test.YtlbmgknlbhakoaaTxC
namespace Go.Proofs.Ytlbmgknlbhakoaa
open Go.RowKit
/-! Feed, Close, Over. -/
theorem add_off (b off j : Nat) : (⟨b, off, none⟩ : Addr).add j = ⟨b, off + j, none⟩ := by unfold Addr.add; split <;> simp_all
set_option maxHeartbeats 2000000 in
theorem cloneO {w : World} {ao : Option Addr} {cap : Nat} {l : List Int} (h : RdA w ao 1 l.length cap (fun j => .int .u8 (l.getD j 0))) (hl : l.length ≤ 1000) :
    Calls Try.prog 28 #[.slice ao l.length cap] w fun e w' => ∃ v, e = .returned v ∧ OwnB w' w.heap.size v l ∧ Below w.heap.size w w' := by
  obtain ⟨i0, hi0, hz0, hz1, hz2⟩ := info_parts infoB
  by_cases h0 : 0 < l.length
  · obtain ⟨b, off, rfl, hc⟩ := h.one h0
    have HC : Hid (∀ j u, ((List.range l.length).map (fun j => Value.int .u8 (l.getD j 0)))[j]? = some u → (w.alloc (.cells #[] 5)).cell? ((⟨b, off, none⟩ : Addr).add j) = some u) := fun j u hu => by
      rw [add_off]
      by_cases hj : j < l.length
      · simp [hj] at hu
        rw [fresh_cell (fresh_alloc _ _) (hc j hj), ← hu]
        simp [hj]
      · simp [hj] at hu
    clear h hc
    have hq := eqNil_some ⟨b, off, none⟩ l.length cap
    go_enter Try.func28, Try.ntmps28
    go_wp2_with (at_builtin; refine wpList_append_grows _ rfl _ _ 22 rfl 5 i0 (.int .u8 0) 1 1 Try.underlying22 hi0 hz0 hz1 hz2 rfl (by decide) _ 0 0 [] rfl (fun h => by cases h) (by simp) (fun _ _ j u hu => by simp at hu) ⟨b, off, none⟩ l.length cap ((List.range l.length).map (fun j => Value.int .u8 (l.getD j 0))) rfl (by simp) HC.out (by intro u hu; obtain ⟨j, _, rfl⟩ := List.mem_map.1 hu; rfl) (by omega) (by unfold maxLen; omega) (by omega) ?_)
    intro v' w6 hown' hgr
    have hf6 : Below w.heap.size w w6 := (fresh_alloc w (.cells #[] 5)).grown hgr (by simp) (fun k hk => by cases hk)
    have HP : Hid (OwnB w6 w.heap.size v' l) := by
      have : Own w6 (w.alloc (.cells #[] 5)).heap.size 5 1 v' l.length (fun j => .int .u8 (l.getD j 0)) := by
        unfold Own; simpa using hown'
      exact Own.weaken this (by simp)
    clear hown' hgr
    obtain ⟨g9, k9, rfl, _⟩ := HP.out.rda
    go_wp2
    go_ret
    exact ⟨_, rfl, HP.out, hf6⟩
  · have e0 : l = [] := by cases l with
      | nil => rfl
      | cons a r => simp at h0
    subst e0
    cases ao with
    | none =>
      have hq := eqNil_none 0 cap
      go_enter Try.func28, Try.ntmps28
      go_wp2
      go_ret
      exact ⟨_, rfl, ownB_nil _ _, Below.refl _ _⟩
    | some a =>
      have hq := eqNil_some a 0 cap
      go_enter Try.func28, Try.ntmps28
      go_wp2_with (at_builtin; refine Lib.wpList_append_run _ rfl _ _ _ _ rfl _ _ rfl rfl _ _ (run_append_zero _ 22 _ 5 Try.underlying22 hi0 _ (some a) 0 0 cap (Nat.le_refl _)) ?_)
      all_goals (go_ret; exact ⟨_, rfl, own_empty _ _ _, fresh_alloc _ _⟩)
/-- What a Feed leaves. -/
structure Fed (w : World) (S : Nat) (K : Nat → Prop) (d : VD) (sts : List (List Int)) (wv : Value) (x : List Int) (o : Bool) (ts : List Nat) (v : Value) (w' : World) : Prop where
  out : OwnB w' 0 v (fdO d sts x o ts)
  blk : ∀ b, v.ownBlock = some b → (wv.ownBlock = some b ∨ w.heap.size ≤ b)
  st : ∃ wv', StA w' S K d sts wv' (fdX d sts x o ts) (fdE d sts x o ts) ∧ (o = true → wv' = wv) ∧ (o = false → ∀ b, wv'.ownBlock = some b → w.heap.size ≤ b ∧ v.ownBlock ≠ some b)
  chg : Chg w w' (fun b => b = S ∨ wv.ownBlock = some b)
/-- how much may wait -/
theorem waN_18 {sts : List (List Int)} (h : SOk sts) (t : List Int) : waN sts t ≤ 18 := by
  have h1 := begN_15 h t
  have h2 := (runeN_le (t.take (t.length - begN sts t))).1
  unfold waN; omega
theorem Fed.done {w w1 wX w5 : World} {S : Nat} {K : Nat → Prop} {d : VD} {sts : List (List Int)} {wv : Value} {x : List Int} {ts : List Nat} {R : List Int × Bool} {G ct : Nat} {ao : Option Addr} {v5 : Value}
    (h0 : StA w S K d sts wv x false) (eR : R = comT d sts x ts) (eG : G = gvN sts R) (hG : G ≤ R.1.length) (ho : OwnB w1 0 (.slice ao R.1.length ct) R.1) (hb : ∀ b, (Value.slice ao R.1.length ct).ownBlock = some b → wv.ownBlock = some b ∨ w.heap.size ≤ b) (hc : Chg w w1 (fun b => b = S ∨ wv.ownBlock = some b)) (hP : StP w1 S K d sts wv R.2)
    (fX : Below w1.heap.size w1 wX) (f5 : Below wX.heap.size wX w5) (h5 : OwnB w5 wX.heap.size v5 (R.1.drop G)) : Fed w S K d sts wv x false ts (.slice ao G ct) (w5.setCell ⟨S, 2, none⟩ v5) := by
  have hz := hc.size
  have hz1 := fX.size
  have hz2 := f5.size
  have hS := h0.p.lt
  have f15 := fresh_trans fX f5
  have eO : fdO d sts x false ts = R.1.take G := by simp [fdO, eG, eR]
  have eX : fdX d sts x false ts = R.1.drop G := by simp [fdX, eG, eR]
  have eE : fdE d sts x false ts = R.2 := by simp [fdE, eR]
  have hnS : (Value.slice ao (R.1.take G).length ct).ownBlock ≠ some S := h0.nS (fun b hb' => hb b (by rw [← hb']; exact ownB_len _ _ _ _ _))
  have hlen : (R.1.take G).length = G := by rw [List.length_take]; omega
  have h5b : ∀ b, v5.ownBlock = some b → wX.heap.size ≤ b ∧ b < w5.heap.size := fun b hb => Own.lt h5 b hb
  refine ⟨?_, fun b hb' => hb b (by rw [← hb']; exact ownB_len _ _ _ _ _), ⟨v5, ⟨?_, ?_, ?_, ?_⟩, ?_, ?_⟩, ?_⟩
  · rw [eO]
    have h1 := (OwnB.cut ho hG)
    have h2 := OwnB.set (Own.kept h1 f15) S 2 v5 hnS
    rwa [hlen] at h2
  · rw [eE]; exact (hP.fresh f15).wait v5
  · rw [eX]
    exact OwnB.set (Own.weaken h5 (Nat.zero_le _)) S 2 v5 (fun e => by have := (h5b S e).1; omega)
  · intro b e hK
    have := (h5b b e).1
    have := h0.p.kl b hK
    omega
  · intro e
    have := (h5b S e).1
    omega
  · intro h; cases h
  · intro _ b e
    have h1 := (h5b b e).1
    refine ⟨by omega, fun e2 => ?_⟩
    have e3 : (Value.slice ao R.1.length ct).ownBlock = some b := by rw [← e2]; exact ownB_len _ _ _ _ _
    have := (Own.lt ho b e3).2
    omega
  · exact (hc.post f15).trans (Chg.of_set w5 S 2 v5) (fun b _ e => .inl e)
set_option maxRecDepth 100000 in
set_option maxHeartbeats 4000000 in
theorem feed_over {w : World} {S : Nat} {K : Nat → Prop} {d : VD} {sts : List (List Int)} {wv : Value} {x : List Int} (hC : Cst d sts) (hS : StA w S K d sts wv x true)
    {ko : Option Addr} {ck : Nat} {ts : List Nat} (hk : RdA w ko 1 ts.length ck (fun i => .int .i64 ((ts.getD i 0 : Nat) : Int))) (hgd : ∀ i, i < ts.length → ts.getD i 0 < d.nb + 1 + d.np) (hn : ts.length ≤ 2147483700) :
    Calls Try.prog 12 #[.pointer (some ⟨S, 0, none⟩), .slice ko ts.length ck] w fun e w' => e = .returned (.tuple #[.slice none 0 0, .int .i64 0]) ∧ w' = w := by
  have HGD := hidd hgd
  have HK := hidd hk
  obtain ⟨_, c3, _⟩ := hS.p.cells
  obtain ⟨po, kp, c0, htab⟩ := hS.p.tab
  obtain ⟨z1, z2, z3⟩ := hC.right.cnt
  have hN64 : d.nb + 1 + d.np ≤ 64 := by omega
  have hcapT := htab.le
  obtain ⟨N, eN⟩ : ∃ N, N = d.nb + 1 + d.np := ⟨_, rfl⟩
  rw [← eN] at c0 hN64 hcapT HGD
  obtain ⟨n, en⟩ : ∃ n, n = ts.length := ⟨_, rfl⟩
  have EN := hidd en
  rw [← en] at hn HK HGD ⊢
  clear hC hS hgd hk en htab z1 z2 z3 eN
  go_enter Try.func12, Try.ntmps12
  go_wp2
  go_loopw [14] (fun i wr => ∃ k : Nat, k ≤ n ∧ i = .int .i64 k ∧ wr = w) (fun i _ => n - (intOf i).toNat)
  case atStart => exact ⟨0, Nat.zero_le _, rfl, rfl⟩
  case round =>
    obtain ⟨k, hkn, rfl, hw⟩ := hrel
    rw [hw]
    clear hw
    by_cases hlt : k < n
    · obtain ⟨b1, o1, rfl, hcs⟩ := HK.out.one (by omega)
      have c1 := hcs k hlt
      have hg := HGD.out k hlt
      obtain ⟨q, eq⟩ : ∃ q, q = ts.getD k 0 := ⟨_, rfl⟩
      rw [← eq] at c1 hg
      clear hcs eq
      go_wp2
      go_roundw
      case rel => exact ⟨k + 1, by omega, by go_num, trivial⟩
      case measure => simp [intOf]; omega
    · obtain rfl : k = n := by omega
      go_wp2
      go_ret2
      first | exact ⟨rfl, rfl⟩ | rfl | trivial
set_option maxRecDepth 100000 in
set_option maxHeartbeats 4000000 in
theorem feed_bad {w : World} {S : Nat} {K : Nat → Prop} {d : VD} {sts : List (List Int)} {wv : Value} {o : Bool} (hC : Cst d sts) (hS : StP w S K d sts wv o)
    {ko : Option Addr} {ck n : Nat} {T : Nat → Int} (hk : RdA w ko 1 n ck (fun i => .int .i64 (T i))) (hgd : ∃ i, i < n ∧ ¬ (0 ≤ T i ∧ T i < ((d.nb + 1 + d.np : Nat) : Int))) (hn : n ≤ 2147483700) :
    Calls Try.prog 12 #[.pointer (some ⟨S, 0, none⟩), .slice ko n ck] w fun e w' => e = .returned (.tuple #[.slice none 0 0, .int .i64 52]) ∧ w' = w := by
  have HGD := hidd hgd
  have HK := hidd hk
  obtain ⟨po, kp, c0, htab⟩ := hS.tab
  obtain ⟨z1, z2, z3⟩ := hC.right.cnt
  have hN64 : d.nb + 1 + d.np ≤ 64 := by omega
  have hcapT := htab.le
  obtain ⟨N, eN⟩ : ∃ N, N = d.nb + 1 + d.np := ⟨_, rfl⟩
  rw [← eN] at c0 hN64 hcapT HGD
  clear hC hS hgd hk htab z1 z2 z3 eN
  go_enter Try.func12, Try.ntmps12
  go_wp2
  go_loopw [14] (fun i wr => ∃ k : Nat, k ≤ n ∧ i = .int .i64 k ∧ Hid (∀ j, j < k → 0 ≤ T j ∧ T j < (N : Int)) ∧ wr = w) (fun i _ => n - (intOf i).toNat)
  case atStart => exact ⟨0, Nat.zero_le _, rfl, (fun j hj => absurd hj (by omega)), rfl⟩
  case round =>
    obtain ⟨k, hkn, rfl, HG, hw⟩ := hrel
    rw [hw]
    clear hw
    by_cases hlt : k < n
    · obtain ⟨b1, o1, rfl, hcs⟩ := HK.out.one (by omega)
      have c1 := hcs k hlt
      obtain ⟨q, eq⟩ : ∃ q, q = T k := ⟨_, rfl⟩
      have EQ := hidd eq
      rw [← eq] at c1
      clear hcs eq
      by_cases h1 : q < 0
      · go_wp2
        go_ret2
        first | exact ⟨rfl, rfl⟩ | rfl | trivial
      by_cases h2 : (N : Int) ≤ q
      · go_wp2
        go_ret2
        first | exact ⟨rfl, rfl⟩ | rfl | trivial
      · have HG2 : Hid (∀ j, j < k + 1 → 0 ≤ T j ∧ T j < (N : Int)) := fun j hj => by
          by_cases e : j = k
          · subst e; rw [← EQ.out]; omega
          · exact HG.out j (by omega)
        go_wp2
        go_roundw
        case rel => exact ⟨k + 1, by omega, by go_num, HG2, trivial⟩
        case measure => simp [intOf]; omega
    · exfalso
      obtain ⟨i, hi, hb⟩ := HGD.out
      exact hb (HG.out i (by omega))
set_option maxRecDepth 100000 in
set_option maxHeartbeats 4000000 in
theorem feed_ok {w : World} {S : Nat} {K : Nat → Prop} {d : VD} {sts : List (List Int)} {wv : Value} {x : List Int} (hC : Cst d sts) (hS : StA w S K d sts wv x false) (bx : Byt x) (hx : x.length ≤ 1000)
    {ko : Option Addr} {ck : Nat} {ts : List Nat} (hk : RdA w ko 1 ts.length ck (fun i => .int .i64 ((ts.getD i 0 : Nat) : Int))) (hko : ∀ b off, ko = some ⟨b, off, none⟩ → wv.ownBlock ≠ some b ∧ b ≠ S) (hgd : ∀ i, i < ts.length → ts.getD i 0 < d.nb + 1 + d.np) (hn : ts.length ≤ 2147483700) :
    Calls Try.prog 12 #[.pointer (some ⟨S, 0, none⟩), .slice ko ts.length ck] w fun e w' => ∃ v, e = .returned (.tuple #[v, .int .i64 0]) ∧ Fed w S K d sts wv x false ts v w' := by
  have HGD := hidd hgd
  have HK := hidd hk
  have HCM := hidd (come_any hC hS bx hx hk hko hgd hn)
  have HC := hidd hC
  have HS := hidd hS
  have HBR : Hid (Byt (comT d sts x ts).1) := byt_pre (comT_pre ts x) (bx.app (byt_spl hC.byt ts))
  obtain ⟨_, c3, _⟩ := hS.p.cells
  obtain ⟨po, kp, c0, htab⟩ := hS.p.tab
  obtain ⟨z1, z2, z3⟩ := hC.right.cnt
  have hN64 : d.nb + 1 + d.np ≤ 64 := by omega
  have hcapT := htab.le
  obtain ⟨N, eN⟩ : ∃ N, N = d.nb + 1 + d.np := ⟨_, rfl⟩
  rw [← eN] at c0 hN64 hcapT HGD
  obtain ⟨n, en⟩ : ∃ n, n = ts.length := ⟨_, rfl⟩
  have EN := hidd en
  rw [← en] at hn HK HGD HCM ⊢
  obtain ⟨R, eR⟩ : ∃ R, R = comT d sts x ts := ⟨_, rfl⟩
  rw [← eR] at HCM HBR
  have ER := hidd eR
  clear hC hS bx hgd hk hko en htab z1 z2 z3 eN eR
  go_enter Try.func12, Try.ntmps12
  go_wp2
  go_loopw [14] (fun i wr => ∃ k : Nat, k ≤ n ∧ i = .int .i64 k ∧ wr = w) (fun i _ => n - (intOf i).toNat)
  case atStart => exact ⟨0, Nat.zero_le _, rfl, rfl⟩
  case round =>
    obtain ⟨k, hkn, rfl, hw⟩ := hrel
    rw [hw]
    clear hw
    by_cases hlt : k < n
    · obtain ⟨b1, o1, rfl, hcs⟩ := HK.out.one (by omega)
      have c1 := hcs k hlt
      have hg := HGD.out k hlt
      obtain ⟨q, eq⟩ : ∃ q, q = ts.getD k 0 := ⟨_, rfl⟩
      rw [← eq] at c1 hg
      clear hcs eq
      go_wp2
      go_roundw
      case rel => exact ⟨k + 1, by omega, by go_num, trivial⟩
      case measure => simp [intOf]; omega
    · obtain rfl : k = n := by omega
      go_wp2_with fail
      refine HCM.out.mono ?_
      rintro e w1 ⟨ao, ct, rfl, hO1, hb1, hP1, hc1⟩
      have HX1 := hidd hO1
      have HX2 := hidd hb1
      have HX3 := hidd hc1
      have HP1 := hidd hP1
      obtain ⟨_, g3, gf⟩ := hP1.cells
      obtain ⟨_, _, eA, hRd⟩ := OwnB.rda hO1
      cases eA
      have hle1 := hRd.le
      have htop1 := hRd.top
      unfold maxLen at htop1
      have HRd := hidd hRd
      obtain ⟨L, eL⟩ : ∃ L, L = R.1.length := ⟨_, rfl⟩
      have EL := hidd eL
      rw [← eL] at hle1 ⊢
      have hcs := own_cases hO1
      rw [← eL] at hcs
      have HWA := hidd (fun o => wait_any (o := o) HC.out (w := w1) (S := S) (K := K) (wv := wv) (t := R.1) (ca := ct) (ao := ao))
      clear hO1 hb1 hc1 hP1 hRd eL c0 c3
      have HDONE := hidd (fun G (eG : G = gvN sts R) (hG : G ≤ R.1.length) wX w5 v5 (fX : Below w1.heap.size w1 wX) (f5 : Below wX.heap.size wX w5) (h5 : OwnB w5 wX.heap.size v5 (R.1.drop G)) => Fed.done (ao := ao) (ct := ct) HS.out ER.out eG hG HX1.out HX2.out HX3.out HP1.out fX f5 h5)
      have HLE : Hid (∀ G, G = gvN sts R → G ≤ L ∧ L - G ≤ 18) := fun G eG => by
        have h1 := waN_18 HC.out.ok R.1
        have h2 := waN_len sts R.1
        have := EL.out
        unfold gvN at eG
        split at eG <;> omega
      have HCL : Hid (∀ G, G = gvN sts R → ∀ wX, Below w1.heap.size w1 wX → ∀ ad, (L - G = 0 ∨ ∃ b, ao = some ⟨b, 0, none⟩ ∧ ad = some ⟨b, G, none⟩) → ∀ m, m = L - G → ∀ cc, m ≤ cc → cc ≤ maxLen → Calls Try.prog 28 #[.slice ad m cc] wX fun e w' => ∃ v, e = .returned v ∧ OwnB w' wX.heap.size v (R.1.drop G) ∧ Below wX.heap.size wX w') := fun G eG wX fX ad had m hm cc hcc hcm => by
        obtain ⟨h1, h2⟩ := HLE.out G eG
        have hlen : (R.1.drop G).length = L - G := by rw [List.length_drop, ← EL.out]
        have hr : RdA wX ad 1 (R.1.drop G).length cc (fun j => .int .u8 ((R.1.drop G).getD j 0)) := by
          refine ⟨by omega, hcm, fun h0 => ?_⟩
          rcases had with h | ⟨b, e1, e2⟩
          · omega
          · have h3 := (HRd.out.fresh fX)
            rw [e1] at h3
            have h4 := h3.tail (n := G) (by have := EL.out; omega)
            rw [Nat.zero_add] at h4
            obtain ⟨b', o', e', hc'⟩ := h4.at_ h0
            cases e'
            exact ⟨b, G, e2, hc'⟩
        have := cloneO hr (by omega)
        rwa [hlen, ← hm] at this
      cases hR2 : R.2 with
      | true =>
        rw [hR2] at g3
        have HG : Hid (L = gvN sts R) := by show _ = _; unfold gvN; rw [hR2, EL.out]; rfl
        clear hR2
        rcases hcs with ⟨ev, hL0⟩ | ⟨bt, ct', ev⟩
        · cases ev
          go_wp2_with fail
          refine (HCL.out 0 HG.out _ (Below.refl _ _) _ (.inl (by omega)) 0 (by omega) 0 (Nat.le_refl _) (by unfold maxLen; omega)).mono ?_
          rintro e w5 ⟨v5, rfl, HO5', f5⟩
          have HO5 := hidd HO5'
          have hP5 := (HP1.out.fresh (Below.refl _ _)).fresh f5
          obtain ⟨d2, _, ff5⟩ := hP5.cells
          have ff2 := ff5 2
          obtain ⟨a5, k5, e5, _⟩ := HO5.out.rda
          have HF := hidd (HDONE.out 0 HG.out (by have := EL.out; omega) _ _ _ (Below.refl _ _) f5 HO5.out)
          rw [e5] at HF ⊢
          obtain ⟨q5, e5q⟩ : ∃ q5, q5 = (R.1.drop 0).length := ⟨_, rfl⟩
          rw [← e5q] at HF ⊢
          clear HO5' hP5 ff5 e5 e5q HO5
          go_wp2
          go_ret2
          first | exact ⟨_, rfl, HF.out⟩ | (have hh : ct = 0 := by omega
                                            rw [hh] at HF
                                            exact ⟨_, rfl, HF.out⟩)
        · cases ev
          go_wp2_with fail
          all_goals refine (HCL.out L HG.out _ (Below.refl _ _) _ (.inl (by omega)) _ (by omega) _ (by omega) (by unfold maxLen; omega)).mono ?_
          all_goals (
            rintro e w5 ⟨v5, rfl, HO5', f5⟩
            have HO5 := hidd HO5'
            have hP5 := (HP1.out.fresh (Below.refl _ _)).fresh f5
            obtain ⟨d2, _, ff5⟩ := hP5.cells
            have ff2 := ff5 2
            obtain ⟨a5, k5, e5, _⟩ := HO5.out.rda
            have HF := hidd (HDONE.out L HG.out (by have := EL.out; omega) _ _ _ (Below.refl _ _) f5 HO5.out)
            rw [e5] at HF ⊢
            obtain ⟨q5, e5q⟩ : ∃ q5, q5 = (R.1.drop L).length := ⟨_, rfl⟩
            rw [← e5q] at HF ⊢
            clear HO5' hP5 ff5 e5 e5q HO5
            go_wp2
            go_ret2
            first | exact ⟨_, rfl, HF.out⟩ | (have hh : ct = L := by omega
                                              rw [hh] at HF
                                              exact ⟨_, rfl, HF.out⟩))
      | false =>
        rw [hR2] at g3
        have hw1 := waN_len sts R.1
        obtain ⟨wn, ewn⟩ : ∃ wn, wn = waN sts R.1 := ⟨_, rfl⟩
        have HG : Hid (L - wn = gvN sts R) := by show _ = _; unfold gvN; rw [hR2, EL.out, ewn]; rfl
        have HW2 : Hid (Calls Try.prog 27 #[.pointer (some ⟨S, 0, none⟩), .slice ao L ct] w1 fun e w' => e = .returned (.int .i64 (wn : Int)) ∧ Below w1.heap.size w1 w') := by
          have := HWA.out _ HP1.out HRd.out HBR.out
          rwa [← EL.out, ← ewn] at this
        rw [← ewn, ← EL.out] at hw1
        clear hR2 ewn
        rcases hcs with ⟨ev, hL0⟩ | ⟨bt, ct', ev⟩
        · cases ev
          obtain rfl : wn = 0 := by omega
          go_wp2_with fail
          refine HW2.out.mono ?_
          rintro e wX ⟨rfl, fX⟩
          obtain ⟨_, g3', _⟩ := (HP1.out.fresh fX).cells
          clear g3
          go_wp2_with fail
          refine (HCL.out 0 HG.out _ fX _ (.inl (by omega)) 0 (by omega) 0 (Nat.le_refl _) (by unfold maxLen; omega)).mono ?_
          rintro e w5 ⟨v5, rfl, HO5', f5⟩
          have HO5 := hidd HO5'
          have hP5 := (HP1.out.fresh fX).fresh f5
          obtain ⟨d2, _, ff5⟩ := hP5.cells
          have ff2 := ff5 2
          obtain ⟨a5, k5, e5, _⟩ := HO5.out.rda
          have HF := hidd (HDONE.out 0 HG.out (by have := EL.out; omega) _ _ _ fX f5 HO5.out)
          rw [e5] at HF ⊢
          obtain ⟨q5, e5q⟩ : ∃ q5, q5 = (R.1.drop 0).length := ⟨_, rfl⟩
          rw [← e5q] at HF ⊢
          clear HO5' hP5 ff5 e5 e5q HO5
          go_wp2
          go_ret2
          first | exact ⟨_, rfl, HF.out⟩ | (have hh : ct = 0 := by omega
                                            rw [hh] at HF
                                            exact ⟨_, rfl, HF.out⟩)
        · cases ev
          go_wp2_with fail
          refine HW2.out.mono ?_
          rintro e wX ⟨rfl, fX⟩
          obtain ⟨_, g3', _⟩ := (HP1.out.fresh fX).cells
          clear g3
          obtain ⟨G, eG⟩ : ∃ G, G = L - wn := ⟨_, rfl⟩
          have hGi : (L : Int) - (wn : Int) = (G : Int) := by omega
          have hGL : G ≤ L := by omega
          rw [← eG] at HG
          have EGG := hidd eG
          clear eG
          go_wp2_with fail
          all_goals refine (HCL.out G HG.out _ fX _ (by first | exact .inr ⟨bt, rfl, rfl⟩ | exact .inl (by omega)) _ (by omega) _ (by omega) (by unfold maxLen; omega)).mono ?_
          all_goals (
            rintro e w5 ⟨v5, rfl, HO5', f5⟩
            have HO5 := hidd HO5'
            have hP5 := (HP1.out.fresh fX).fresh f5
            obtain ⟨d2, _, ff5⟩ := hP5.cells
            have ff2 := ff5 2
            obtain ⟨a5, k5, e5, _⟩ := HO5.out.rda
            have HF := hidd (HDONE.out G HG.out (by have := EL.out; omega) _ _ _ fX f5 HO5.out)
            rw [e5] at HF ⊢
            obtain ⟨q5, e5q⟩ : ∃ q5, q5 = (R.1.drop G).length := ⟨_, rfl⟩
            rw [← e5q] at HF ⊢
            clear HO5' hP5 ff5 e5 e5q HO5
            go_wp2
            go_ret2
            first | exact ⟨_, rfl, HF.out⟩ | (have hh : ct = G := by omega
                                              rw [hh] at HF
                                              exact ⟨_, rfl, HF.out⟩))
end Go.Proofs.Ytlbmgknlbhakoaa
