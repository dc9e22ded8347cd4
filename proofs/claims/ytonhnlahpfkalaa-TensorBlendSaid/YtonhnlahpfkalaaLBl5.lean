import Derived.Test.YtonhnlahpfkalaaLBm
namespace Go.Proofs.Ytonhnlahpfkalaa
open Go.RowKit
/-! The law TensorBlend: its first loop. -/
set_option maxRecDepth 100000 in
set_option maxHeartbeats 4000000 in
theorem blend_law {w : World} {vo wo po : Option Addr} {n nw q cv cw cq : Nat} {A : Nat → Option Addr} {L K : Nat → Nat} {X : Nat → Nat → Int} {g py : Nat → Int}
    (hv : Vs w vo n cv A L K X) (hg : RdA w wo 1 nw cw (fun i => .int .i64 (g i))) (hd : RdA w po 1 q cq (fun i => .int .i64 (py i)))
    (bX : ∀ i j, i < n → -128 ≤ atf (L i) (X i) j ∧ atf (L i) (X i) j ≤ 127) (hL0 : L 0 ≤ 140737488351232) :
    Calls Try.prog 5 #[.slice vo n cv, .slice wo nw cw, .slice po q cq] w fun e w' => e = .returned (.bool true) ∧ Below w.heap.size w w' := by
  have hn : n ≤ 9223372036854775807 := by have := hv.top.le; have := hv.top.top; unfold maxLen at this; omega
  have hnw : nw ≤ 9223372036854775807 := by have := hg.le; have := hg.top; unfold maxLen at this; omega
  go_enter Try.func5, Try.ntmps5
  go_wp2_with fail
  refine (fixed_any _).mono ?_
  rintro e w1 ⟨rfl, hf1⟩
  replace hv := hv.fresh hf1
  replace hg := hg.fresh hf1
  replace hd := hd.fresh hf1
  have BX := hidd bX
  clear bX
  go_wp2
  go_loopw [8, 9, 10, 11, 12] (fun l ww tt s i wr => ∃ (k : Nat) (V : Nat → Value), k ≤ n ∧ k ≤ 100 ∧ i = .int .i64 k ∧ s = .int .i64 (tot (wgt nw g) k) ∧ BR w1 wr l ww tt k (L 0) V (fun i j => atf (L i) (X i) j) (wgt nw g)) (fun _ _ _ _ i _ => 100 - (intOf i).toNat)
  case atStart => exact ⟨0, fun _ => .bool false, by omega, by omega, rfl, by rw [tot_zero], br_start _ _ _ _ _⟩
  case round =>
    obtain ⟨k, V, hk, hk1, rfl, rfl, hbr⟩ := hrel
    by_cases hgo : k < n ∧ k < 100
    · obtain ⟨hlt, hl1⟩ := hgo
      obtain ⟨bv, ov, rfl, hcv⟩ := (hv.top.fresh hbr.bel).one (by omega)
      have z0 := hcv 0 (by omega)
      have zk := hcv k hlt
      simp only [Nat.add_zero] at z0
      have hrk := (hv.row k hlt).fresh hbr.bel
      have Z0 := hidd z0
      have ZK := hidd zk
      have hd0 : decide ((k : Int) < (n : Int)) = true := by simp; omega
      have hd1 : decide ((k : Int) < 100) = true := by simp; omega
      clear hcv z0 zk
      go_wp2
      clear hd0 hd1
      go_loopw [13, 14] (fun v i wc => ∃ t : Nat, t ≤ L 0 ∧ i = .int .i64 t ∧ Own wc wr.heap.size 32 1 v t (fun j => .int .i8 (atf (L k) (X k) j)) ∧ Below wr.heap.size wr wc) (fun _ i _ => L 0 - (intOf i).toNat)
      case atStart => exact ⟨0, by omega, rfl, own_nil _ _ _ _ _, Below.refl _ _⟩
      case round =>
        obtain ⟨t, ht, rfl, hown, hfc⟩ := hrel
        have hsc := hfc.size
        have z0 := fresh_cell hfc Z0.out
        by_cases hltt : t < L 0
        · have zk := fresh_cell hfc ZK.out
          have qa := at_any (hrk.fresh hfc) t
          go_wp2_with fail
          refine qa.mono ?_
          rintro e w6 ⟨rfl, hw6⟩
          rw [hw6]
          clear hw6 qa w6
          go_wp2_with (at_builtin; refine wpList_app1 _ rfl _ _ 23 rfl _ 32 (.int .i8 0) 1 Try.underlying23 infoI8 rfl _ t _ rfl (hown.kept (fresh_alloc _ _)) _ 1 rfl (new_cell _ _ _) rfl (by omega) (by omega) (by simp; omega) ?_)
          intro v' w6 hown' happ
          have hf6 := happ.below (hfc.alloc hsc _) (hown.kept (fresh_alloc _ _)) (Nat.le_refl _) (by simp; omega)
          clear happ hown zk z0 hfc
          go_wp2
          go_roundw
          case rel => exact ⟨t + 1, by omega, by go_num, hown', hf6⟩
          case measure => simp [intOf]; omega
        · have htL : t = L 0 := by omega
          rw [htL] at hown
          clear htL
          have ES := hidd (tot_succ (wgt nw g) k)
          by_cases hkw : k < nw
          · obtain ⟨bg, og, rfl, hcg⟩ := (hg.fresh hbr.bel).one (by omega)
            have zg := fresh_cell hfc (hcg k hkw)
            have hmb := wmod_bd (g k)
            clear hcg
            by_cases hneg : (g k).tmod 1099511627776 < 0
            · have EW := hidd (show wgt nw g k = -((g k).tmod 1099511627776) by unfold wgt; rw [if_pos hkw, if_pos hneg])
              have hs0 := hbr.bel.size
              obtain ⟨va, vc, rfl, _⟩ := hown.rd
              have hvo := hown.weaken hs0
              have flv := off_lt hbr.ol hown (Nat.le_refl _)
              have fwv := off_lt hbr.ow hown (Nat.le_refl _)
              have ftv := off_lt hbr.ot hown (Nat.le_refl _)
              have hb2 := hbr.kept hfc
              have hsc := hb2.bel.size
              have hol := hb2.ol.congr (cs' := updV V k (.slice va (L 0) vc)) (fun j hj => (updV_ne V _ (by omega)).symm)
              clear hown hbr hfc
              go_wp2_with (at_builtin; refine wpList_app1 _ rfl _ _ 55 rfl _ 23 (.slice none 0 0) 24 Try.underlying55 infoS8 rfl _ k _ rfl (hol.kept (fresh_alloc _ _)) _ 1 rfl (new_val _ _ (updV_at _ _ _)) (by rw [updV_at]; rfl) (by omega) (by omega) (by simp; omega) ?_)
              intro l' wd nl A1
              have ow1 := A1.own (hb2.ow.kept (fresh_alloc _ _)) hb2.lw
              have ot1 := A1.own (hb2.ot.kept (fresh_alloc _ _)) hb2.lt
              have be1 := A1.below (hb2.bel.alloc hsc _) (hol.kept (fresh_alloc _ _)) (Nat.le_refl _) (by simp; omega)
              have hs1 := be1.size
              go_wp2_with (at_builtin; refine wpList_app1 _ rfl _ _ 46 rfl _ 2 (.int .i64 0) 8 Try.underlying46 infoI64 rfl _ k _ rfl (ow1.kept (fresh_alloc _ _)) _ 1 rfl (new_int _ _ EW.out) rfl (by omega) (by omega) (by simp; omega) ?_)
              intro w' we nw' A2
              have ot2 := A2.own (ot1.kept (fresh_alloc _ _)) hb2.wt
              have be2 := A2.below (be1.alloc hs1 _) (ow1.kept (fresh_alloc _ _)) (Nat.le_refl _) (by simp; omega)
              have hs2 := be2.size
              go_wp2_with (at_builtin; refine wpList_app1 _ rfl _ _ 46 rfl _ 2 (.int .i64 0) 8 Try.underlying46 infoI64 rfl _ k _ rfl (ot2.kept (fresh_alloc _ _)) _ 1 rfl (new_int _ _ (by rw [EW.out]; try rfl)) rfl (by omega) (by omega) (by simp; omega) ?_)
              intro t' wf nt A3
              have hnext := hb2.next (hvo.kept (Below.refl _ _)) flv fwv ftv (fresh_alloc _ _) A1 nl (fresh_alloc _ _) A2 nw' (fresh_alloc _ _) A3 nt
              clear A1 A2 A3 nl nw' nt ow1 ot1 ot2 be1 be2 hb2 hol hvo flv fwv ftv
              go_wp2
              go_roundw
              case rel => exact ⟨k + 1, updV V k _, by omega, by omega, by go_num, by rw [← ES.out, EW.out], hnext⟩
              case measure => simp [intOf]; omega
            · have EW := hidd (show wgt nw g k = (g k).tmod 1099511627776 by unfold wgt; rw [if_pos hkw, if_neg hneg])
              have hs0 := hbr.bel.size
              obtain ⟨va, vc, rfl, _⟩ := hown.rd
              have hvo := hown.weaken hs0
              have flv := off_lt hbr.ol hown (Nat.le_refl _)
              have fwv := off_lt hbr.ow hown (Nat.le_refl _)
              have ftv := off_lt hbr.ot hown (Nat.le_refl _)
              have hb2 := hbr.kept hfc
              have hsc := hb2.bel.size
              have hol := hb2.ol.congr (cs' := updV V k (.slice va (L 0) vc)) (fun j hj => (updV_ne V _ (by omega)).symm)
              clear hown hbr hfc
              go_wp2_with (at_builtin; refine wpList_app1 _ rfl _ _ 55 rfl _ 23 (.slice none 0 0) 24 Try.underlying55 infoS8 rfl _ k _ rfl (hol.kept (fresh_alloc _ _)) _ 1 rfl (new_val _ _ (updV_at _ _ _)) (by rw [updV_at]; rfl) (by omega) (by omega) (by simp; omega) ?_)
              intro l' wd nl A1
              have ow1 := A1.own (hb2.ow.kept (fresh_alloc _ _)) hb2.lw
              have ot1 := A1.own (hb2.ot.kept (fresh_alloc _ _)) hb2.lt
              have be1 := A1.below (hb2.bel.alloc hsc _) (hol.kept (fresh_alloc _ _)) (Nat.le_refl _) (by simp; omega)
              have hs1 := be1.size
              go_wp2_with (at_builtin; refine wpList_app1 _ rfl _ _ 46 rfl _ 2 (.int .i64 0) 8 Try.underlying46 infoI64 rfl _ k _ rfl (ow1.kept (fresh_alloc _ _)) _ 1 rfl (new_int _ _ EW.out) rfl (by omega) (by omega) (by simp; omega) ?_)
              intro w' we nw' A2
              have ot2 := A2.own (ot1.kept (fresh_alloc _ _)) hb2.wt
              have be2 := A2.below (be1.alloc hs1 _) (ow1.kept (fresh_alloc _ _)) (Nat.le_refl _) (by simp; omega)
              have hs2 := be2.size
              go_wp2_with (at_builtin; refine wpList_app1 _ rfl _ _ 46 rfl _ 2 (.int .i64 0) 8 Try.underlying46 infoI64 rfl _ k _ rfl (ot2.kept (fresh_alloc _ _)) _ 1 rfl (new_int _ _ (by rw [EW.out]; try rfl)) rfl (by omega) (by omega) (by simp; omega) ?_)
              intro t' wf nt A3
              have hnext := hb2.next (hvo.kept (Below.refl _ _)) flv fwv ftv (fresh_alloc _ _) A1 nl (fresh_alloc _ _) A2 nw' (fresh_alloc _ _) A3 nt
              clear A1 A2 A3 nl nw' nt ow1 ot1 ot2 be1 be2 hb2 hol hvo flv fwv ftv
              go_wp2
              go_roundw
              case rel => exact ⟨k + 1, updV V k _, by omega, by omega, by go_num, by rw [← ES.out, EW.out], hnext⟩
              case measure => simp [intOf]; omega
          · have EW := hidd (show wgt nw g k = 1 by unfold wgt; rw [if_neg hkw])
            have hs0 := hbr.bel.size
            obtain ⟨va, vc, rfl, _⟩ := hown.rd
            have hvo := hown.weaken hs0
            have flv := off_lt hbr.ol hown (Nat.le_refl _)
            have fwv := off_lt hbr.ow hown (Nat.le_refl _)
            have ftv := off_lt hbr.ot hown (Nat.le_refl _)
            have hb2 := hbr.kept hfc
            have hsc := hb2.bel.size
            have hol := hb2.ol.congr (cs' := updV V k (.slice va (L 0) vc)) (fun j hj => (updV_ne V _ (by omega)).symm)
            clear hown hbr hfc
            go_wp2_with (at_builtin; refine wpList_app1 _ rfl _ _ 55 rfl _ 23 (.slice none 0 0) 24 Try.underlying55 infoS8 rfl _ k _ rfl (hol.kept (fresh_alloc _ _)) _ 1 rfl (new_val _ _ (updV_at _ _ _)) (by rw [updV_at]; rfl) (by omega) (by omega) (by simp; omega) ?_)
            intro l' wd nl A1
            have ow1 := A1.own (hb2.ow.kept (fresh_alloc _ _)) hb2.lw
            have ot1 := A1.own (hb2.ot.kept (fresh_alloc _ _)) hb2.lt
            have be1 := A1.below (hb2.bel.alloc hsc _) (hol.kept (fresh_alloc _ _)) (Nat.le_refl _) (by simp; omega)
            have hs1 := be1.size
            go_wp2_with (at_builtin; refine wpList_app1 _ rfl _ _ 46 rfl _ 2 (.int .i64 0) 8 Try.underlying46 infoI64 rfl _ k _ rfl (ow1.kept (fresh_alloc _ _)) _ 1 rfl (new_int _ _ EW.out) rfl (by omega) (by omega) (by simp; omega) ?_)
            intro w' we nw' A2
            have ot2 := A2.own (ot1.kept (fresh_alloc _ _)) hb2.wt
            have be2 := A2.below (be1.alloc hs1 _) (ow1.kept (fresh_alloc _ _)) (Nat.le_refl _) (by simp; omega)
            have hs2 := be2.size
            go_wp2_with (at_builtin; refine wpList_app1 _ rfl _ _ 46 rfl _ 2 (.int .i64 0) 8 Try.underlying46 infoI64 rfl _ k _ rfl (ot2.kept (fresh_alloc _ _)) _ 1 rfl (new_int _ _ (by rw [EW.out]; try rfl)) rfl (by omega) (by omega) (by simp; omega) ?_)
            intro t' wf nt A3
            have hnext := hb2.next (hvo.kept (Below.refl _ _)) flv fwv ftv (fresh_alloc _ _) A1 nl (fresh_alloc _ _) A2 nw' (fresh_alloc _ _) A3 nt
            clear A1 A2 A3 nl nw' nt ow1 ot1 ot2 be1 be2 hb2 hol hvo flv fwv ftv
            go_wp2
            go_roundw
            case rel => exact ⟨k + 1, updV V k _, by omega, by omega, by go_num, by rw [← ES.out, EW.out], hnext⟩
            case measure => simp [intOf]; omega
    · obtain ⟨lo, lc, wo', wc, to, tc, A', K', rfl, rfl, rfl, hvs, hws, hts⟩ := hbr.vs
      have hD := hd.fresh hbr.bel
      have hF := fresh_trans hf1 hbr.bel
      clear hbr hv hg hd hf1
      replace BX := hidd (fun i j (hi : i < k) => BX.out i j (by omega))
      by_cases hkn : k < n
      · have h100 : 100 ≤ k := by omega
        clear hgo
        by_cases hs : tot (wgt nw g) k < 1
        · have qb := blend_low hws hvs (fun _ _ => rfl) (fun i _ => (wgt_bd nw g i).1) hs
          go_wp2_with fail
          refine qb.mono ?_
          rintro e w2 ⟨rfl, hw2⟩
          rw [hw2]
          clear hw2 qb
          go_wp2
          go_ret
          exact ⟨rfl, hF⟩
        · have h0 : 0 < k := by
            rcases Nat.eq_zero_or_pos k with e | e
            · rw [e, tot_zero] at hs; omega
            · exact e
          have qb := blend_ok hws hvs ⟨h0, fun _ _ => rfl, fun i _ => (wgt_bd nw g i).1, by omega⟩ (fun i _ => by have := wgt_bd nw g i; omega) (fun i j hi _ => BX.out i j hi) (by omega) (by omega)
          go_wp2_with fail
          refine qb.mono ?_
          rintro e w2 ⟨ba, F, rfl, hba, hrow, hFa, hf2⟩
          have hra := (rowIs_rd hrow (by unfold maxLen; omega)).congr (cs' := fun j => .int .i8 (bln (wgt nw g) (fun i j => atf (L i) (X i) j) k j)) (fun j hj => hFa j (by omega))
          have hvs2 := hvs.fresh hf2
          have hws2 := hws.fresh hf2
          have hts2 := hts.fresh hf2
          have hD2 := hD.fresh hf2
          have hF2 := fresh_trans hF hf2
          clear qb hrow hFa hvs hws hts hD hF hf2 hba
          obtain ⟨bl, ol, rfl, hcl⟩ := hvs2.top.one h0
          have z0 := hcl 0 h0
          simp only [Nat.add_zero] at z0
          have CL := hidd hcl
          have hne : ((L 0 : Int) != (L 0 : Int)) = false := by simp
          clear hcl
          go_wp2
          clear hne z0
          go_loop [18] (fun i => ∃ t : Nat, t ≤ L 0 ∧ i = .int .i64 t) (fun i => L 0 - (intOf i).toNat)
          case atStart => exact ⟨0, by omega, rfl⟩
          case round =>
            obtain ⟨t, ht, rfl⟩ := hrel
            by_cases hlt : t < L 0
            · obtain ⟨b0, o0, e0, hca⟩ := hra.one (by omega)
              simp only [Option.some.injEq, Addr.mk.injEq, and_true] at e0
              obtain ⟨rfl, rfl⟩ := e0
              have za := hca t hlt
              simp only [Nat.zero_add] at za
              have bt := bln_bd (wgt nw g) (fun i j => atf (L i) (X i) j) k t
              have BT := hidd (fun lo hi => bln_between (nw := nw) (g := g) (X := fun i j => atf (L i) (X i) j) (n := k) (j := t) (lo := lo) (hi := hi) h0 hk1 hs (fun i hi => BX.out i t hi))
              generalize bln (wgt nw g) (fun i j => atf (L i) (X i) j) k t = y at *
              have ZA := hidd za
              clear hca za
              go_wp2
              go_loop [19, 20, 21] (fun a b i => ∃ (r : Nat) (lo hi : Int), r ≤ k ∧ i = .int .i64 r ∧ a = .int .i8 lo ∧ b = .int .i8 hi ∧ -127 ≤ lo ∧ lo ≤ 127 ∧ -127 ≤ hi ∧ hi ≤ 127 ∧ Hid (∀ i, i < r → (lo ≤ atf (L i) (X i) t ∨ lo ≤ -127) ∧ atf (L i) (X i) t ≤ hi)) (fun _ _ i => k - (intOf i).toNat)
              case atStart => exact ⟨0, 127, -127, by omega, rfl, rfl, rfl, by omega, by omega, by omega, by omega, hidd (fun i hi => absurd hi (by omega))⟩
              case round =>
                obtain ⟨s, lo, hi, hsn, rfl, rfl, rfl, l0, l1, m0, m1, HB⟩ := hrel
                by_cases hls : s < k
                · have zl := CL.out s hls
                  obtain ⟨bs, os, es, hcs⟩ := (hvs2.row s hls).one (by omega)
                  have zs := hcs t hlt
                  rw [es] at zl
                  have bx := BX.out s t hls
                  have HS := hidd (fun (lo' hi' : Int) (a1 : lo' ≤ lo) (a2 : hi ≤ hi') (a3 : lo' ≤ atf (L s) (X s) t ∨ lo' ≤ -127) (a4 : atf (L s) (X s) t ≤ hi') => (show ∀ i, i < s + 1 → (lo' ≤ atf (L i) (X i) t ∨ lo' ≤ -127) ∧ atf (L i) (X i) t ≤ hi' from fun i hi0 => by
                    by_cases e : i = s
                    · subst e; exact ⟨a3, a4⟩
                    · have := HB.out i (by omega)
                      omega))
                  generalize atf (L s) (X s) t = x at *
                  clear hcs es HB
                  by_cases e1 : x = -128
                  · subst e1
                    by_cases e2 : -127 < lo
                    · go_wp2
                      go_round
                      case rel => exact ⟨s + 1, -127, hi, by omega, by go_num, rfl, rfl, by omega, by omega, by omega, by omega, hidd (HS.out _ _ (by omega) (by omega) (by omega) (by omega))⟩
                      case measure => simp [intOf]; omega
                    · go_wp2
                      go_round
                      case rel => exact ⟨s + 1, lo, hi, by omega, by go_num, rfl, rfl, by omega, by omega, by omega, by omega, hidd (HS.out _ _ (by omega) (by omega) (by omega) (by omega))⟩
                      case measure => simp [intOf]; omega
                  · by_cases e2 : x < lo
                    · by_cases e3 : hi < x
                      · go_wp2
                        go_round
                        case rel => exact ⟨s + 1, x, x, by omega, by go_num, rfl, rfl, by omega, by omega, by omega, by omega, hidd (HS.out _ _ (by omega) (by omega) (by omega) (by omega))⟩
                        case measure => simp [intOf]; omega
                      · go_wp2
                        go_round
                        case rel => exact ⟨s + 1, x, hi, by omega, by go_num, rfl, rfl, by omega, by omega, by omega, by omega, hidd (HS.out _ _ (by omega) (by omega) (by omega) (by omega))⟩
                        case measure => simp [intOf]; omega
                    · by_cases e3 : hi < x
                      · go_wp2
                        go_round
                        case rel => exact ⟨s + 1, lo, x, by omega, by go_num, rfl, rfl, by omega, by omega, by omega, by omega, hidd (HS.out _ _ (by omega) (by omega) (by omega) (by omega))⟩
                        case measure => simp [intOf]; omega
                      · go_wp2
                        go_round
                        case rel => exact ⟨s + 1, lo, hi, by omega, by go_num, rfl, rfl, by omega, by omega, by omega, by omega, hidd (HS.out _ _ (by omega) (by omega) (by omega) (by omega))⟩
                        case measure => simp [intOf]; omega
                · have hsn' : s = k := by omega
                  have hb := BT.out lo hi (fun i hi0 => ⟨(HB.out i (by omega)).1, (HB.out i (by omega)).2, m0⟩) l1
                  have za := ZA.out
                  go_wp2
                  go_round
                  case rel => exact ⟨t + 1, by omega, by go_num⟩
                  case measure => simp [intOf]; omega
            · go_wp2_with fail
              refine (order_any hD2 (by omega)).mono ?_
              rintro e w3 ⟨pv, p, rfl, hp, ⟨oo, oc, rfl, hrp⟩, hf3⟩
              obtain ⟨bp, op, rfl, hcp⟩ := hrp.one h0
              have HP := hidd hcp
              have hpl := hidd hp.lt
              have hra3 := hra.fresh hf3
              have hvs3 := hvs2.fresh hf3
              have hws3 := hws2.fresh hf3
              have hts3 := hts2.fresh hf3
              have hF3 := fresh_trans hF2 hf3
              have CL3 := hidd (fun j hj => fresh_cell hf3 (CL.out j hj))
              obtain ⟨bw, ow, rfl, hcw⟩ := hws3.one h0
              have CW := hidd hcw
              clear hra hvs2 hws2 hts2 hF2 hf3 CL hcw hcp hlt ht hD2
              go_wp2
              go_loopw [24, 25, 26] (fun m z i wt => ∃ s : Nat, s ≤ k ∧ i = .int .i64 s ∧ Own wt w3.heap.size 23 1 m s (fun i => .slice (A' (p i)) (L 0) (K' (p i))) ∧ Own wt w3.heap.size 2 1 z s (fun i => .int .i64 (wgt nw g (p i))) ∧ Off m z ∧ Below w3.heap.size w3 wt) (fun _ _ i _ => k - (intOf i).toNat)
              case atStart => exact ⟨0, by omega, rfl, own_nil _ _ _ _ _, own_nil _ _ _ _ _, off_nil _, Below.refl _ _⟩
              case round =>
                obtain ⟨s, hsn, rfl, om, oz, fmz, hft⟩ := hrel
                have hst := hft.size
                by_cases hls : s < k
                · have hpt := hpl.out s hls
                  have q1 := fresh_cell hft (HP.out s hls)
                  have q2 := fresh_cell hft (CL3.out _ hpt)
                  go_wp2_with (at_builtin; refine wpList_app1 _ rfl _ _ 55 rfl _ 23 (.slice none 0 0) 24 Try.underlying55 infoS8 rfl _ s _ rfl (om.kept (fresh_alloc _ _)) _ 1 rfl (new_val _ _ rfl) rfl (by omega) (by omega) (by simp; omega) ?_)
                  intro m' w6 nm A1
                  have hf6 := A1.below (hft.alloc hst _) (om.kept (fresh_alloc _ _)) (Nat.le_refl _) (by simp; omega)
                  have oz6 := A1.own (oz.kept (fresh_alloc _ _)) fmz
                  have fmz6 := A1.off (oz.kept (fresh_alloc _ _)) fmz
                  have hs6 := hf6.size
                  clear A1 om oz fmz q1 q2 hft
                  have q1 := fresh_cell hf6 (HP.out s hls)
                  have q2 := fresh_cell hf6 (CW.out _ hpt)
                  go_wp2_with (at_builtin; refine wpList_app1 _ rfl _ _ 46 rfl _ 2 (.int .i64 0) 8 Try.underlying46 infoI64 rfl _ s _ rfl (oz6.kept (fresh_alloc _ _)) _ 1 rfl (new_cell _ _ _) rfl (by omega) (by omega) (by simp; omega) ?_)
                  intro z' w7 nz A2
                  have hf7 := A2.below (hf6.alloc hs6 _) (oz6.kept (fresh_alloc _ _)) (Nat.le_refl _) (by simp; omega)
                  have om7 := A2.own (nm.kept (fresh_alloc _ _)) fmz6.symm
                  have fmz7 := (A2.off (nm.kept (fresh_alloc _ _)) fmz6.symm).symm
                  clear A2 nm oz6 fmz6 q1 q2 hf6
                  go_wp2
                  go_roundw
                  case rel => exact ⟨s + 1, by omega, by go_num, om7, nz, fmz7, hf7⟩
                  case measure => simp [intOf]; omega
                · have hsn' : s = k := by omega
                  rw [hsn'] at om oz
                  obtain ⟨mo, mc, rfl, hm⟩ := om.rd
                  obtain ⟨zo, zc, rfl, hz⟩ := oz.rd
                  have hvs4 : Vs wr mo k mc (fun i => A' (p i)) (fun _ => L 0) (fun i => K' (p i)) (fun i j => atf (L (p i)) (X (p i)) j) := ⟨hm, fun i hi => (hvs3.row (p i) (hpl.out i hi)).fresh hft⟩
                  have hra4 := hra3.fresh hft
                  have hvl4 := hvs3.fresh hft
                  have hts4 := hts3.fresh hft
                  have hF4 := fresh_trans hF3 hft
                  clear hra3 hvs3 hts3 hF3 hft om oz fmz hm hws3
                  have qb := blend_ok hz hvs4 ⟨h0, fun _ _ => rfl, fun i _ => (wgt_bd nw g _).1, by rw [tot_moved (f := wgt nw g) hp]; exact hs⟩ (fun i _ => by have := wgt_bd nw g (p i); omega) (fun i j hi _ => BX.out _ j (hpl.out i hi)) (by omega) (by omega)
                  go_wp2_with fail
                  refine qb.mono ?_
                  rintro e w5 ⟨bb, F2, rfl, hbb, hrow2, hFb, hf5⟩
                  have hrb := (rowIs_rd hrow2 (by unfold maxLen; omega)).congr (cs' := fun j => .int .i8 (bln (wgt nw g) (fun i j => atf (L i) (X i) j) k j)) (fun j hj => by rw [hFb j (by omega)]; exact congrArg (Value.int .i8) (bln_moved (f := wgt nw g) (X := fun i j => atf (L i) (X i) j) hp))
                  have hra5 := hra4.fresh hf5
                  have hvl5 := hvl4.fresh hf5
                  have hts5 := hts4.fresh hf5
                  have hF5 := fresh_trans hF4 hf5
                  clear qb hrow2 hFb hbb hra4 hvl4 hts4 hF4 hf5 hz hvs4
                  have qb := blend_ok hts5 hvl5 ⟨h0, fun _ _ => rfl, fun i _ => by have := wgt_bd nw g i; omega, tot_three hk1 hs⟩ (fun i _ => by have := wgt_bd nw g i; omega) (fun i j hi _ => BX.out i j hi) (by omega) (by omega)
                  go_wp2_with fail
                  refine qb.mono ?_
                  rintro e w6 ⟨bc, F3, rfl, hbc, hrow3, hFc, hf6⟩
                  have hrc := (rowIs_rd hrow3 (by unfold maxLen; omega)).congr (cs' := fun j => .int .i8 (bln (wgt nw g) (fun i j => atf (L i) (X i) j) k j)) (fun j hj => by rw [hFc j (by omega)]; exact congrArg (Value.int .i8) (bln_three hk1 hs (fun i hi => BX.out i j hi)))
                  have hra6 := hra5.fresh hf6
                  have hrb6 := hrb.fresh hf6
                  have hF6 := fresh_trans hF5 hf6
                  clear qb hrow3 hFc hbc hra5 hrb hvl5 hts5 hF5 hf6
                  have qe := eqNarrow_same hra6 hrb6 (fun _ _ => rfl)
                  go_wp2_with fail
                  refine qe.mono ?_
                  rintro e w7 ⟨rfl, hf7⟩
                  have qe2 := eqNarrow_same (hra6.fresh hf7) (hrc.fresh hf7) (fun _ _ => rfl)
                  clear qe
                  go_wp2_with fail
                  refine qe2.mono ?_
                  rintro e w8 ⟨rfl, hf8⟩
                  clear qe2
                  go_wp2
                  go_ret
                  exact ⟨rfl, fresh_trans (fresh_trans hF6 hf7) hf8⟩
      · clear hgo
        by_cases hs : tot (wgt nw g) k < 1
        · have qb := blend_low hws hvs (fun _ _ => rfl) (fun i _ => (wgt_bd nw g i).1) hs
          go_wp2_with fail
          refine qb.mono ?_
          rintro e w2 ⟨rfl, hw2⟩
          rw [hw2]
          clear hw2 qb
          go_wp2
          go_ret
          exact ⟨rfl, hF⟩
        · have h0 : 0 < k := by
            rcases Nat.eq_zero_or_pos k with e | e
            · rw [e, tot_zero] at hs; omega
            · exact e
          have qb := blend_ok hws hvs ⟨h0, fun _ _ => rfl, fun i _ => (wgt_bd nw g i).1, by omega⟩ (fun i _ => by have := wgt_bd nw g i; omega) (fun i j hi _ => BX.out i j hi) (by omega) (by omega)
          go_wp2_with fail
          refine qb.mono ?_
          rintro e w2 ⟨ba, F, rfl, hba, hrow, hFa, hf2⟩
          have hra := (rowIs_rd hrow (by unfold maxLen; omega)).congr (cs' := fun j => .int .i8 (bln (wgt nw g) (fun i j => atf (L i) (X i) j) k j)) (fun j hj => hFa j (by omega))
          have hvs2 := hvs.fresh hf2
          have hws2 := hws.fresh hf2
          have hts2 := hts.fresh hf2
          have hD2 := hD.fresh hf2
          have hF2 := fresh_trans hF hf2
          clear qb hrow hFa hvs hws hts hD hF hf2 hba
          obtain ⟨bl, ol, rfl, hcl⟩ := hvs2.top.one h0
          have z0 := hcl 0 h0
          simp only [Nat.add_zero] at z0
          have CL := hidd hcl
          have hne : ((L 0 : Int) != (L 0 : Int)) = false := by simp
          clear hcl
          go_wp2
          clear hne z0
          go_loop [18] (fun i => ∃ t : Nat, t ≤ L 0 ∧ i = .int .i64 t) (fun i => L 0 - (intOf i).toNat)
          case atStart => exact ⟨0, by omega, rfl⟩
          case round =>
            obtain ⟨t, ht, rfl⟩ := hrel
            by_cases hlt : t < L 0
            · obtain ⟨b0, o0, e0, hca⟩ := hra.one (by omega)
              simp only [Option.some.injEq, Addr.mk.injEq, and_true] at e0
              obtain ⟨rfl, rfl⟩ := e0
              have za := hca t hlt
              simp only [Nat.zero_add] at za
              have bt := bln_bd (wgt nw g) (fun i j => atf (L i) (X i) j) k t
              have BT := hidd (fun lo hi => bln_between (nw := nw) (g := g) (X := fun i j => atf (L i) (X i) j) (n := k) (j := t) (lo := lo) (hi := hi) h0 hk1 hs (fun i hi => BX.out i t hi))
              generalize bln (wgt nw g) (fun i j => atf (L i) (X i) j) k t = y at *
              have ZA := hidd za
              clear hca za
              go_wp2
              go_loop [19, 20, 21] (fun a b i => ∃ (r : Nat) (lo hi : Int), r ≤ k ∧ i = .int .i64 r ∧ a = .int .i8 lo ∧ b = .int .i8 hi ∧ -127 ≤ lo ∧ lo ≤ 127 ∧ -127 ≤ hi ∧ hi ≤ 127 ∧ Hid (∀ i, i < r → (lo ≤ atf (L i) (X i) t ∨ lo ≤ -127) ∧ atf (L i) (X i) t ≤ hi)) (fun _ _ i => k - (intOf i).toNat)
              case atStart => exact ⟨0, 127, -127, by omega, rfl, rfl, rfl, by omega, by omega, by omega, by omega, hidd (fun i hi => absurd hi (by omega))⟩
              case round =>
                obtain ⟨s, lo, hi, hsn, rfl, rfl, rfl, l0, l1, m0, m1, HB⟩ := hrel
                by_cases hls : s < k
                · have zl := CL.out s hls
                  obtain ⟨bs, os, es, hcs⟩ := (hvs2.row s hls).one (by omega)
                  have zs := hcs t hlt
                  rw [es] at zl
                  have bx := BX.out s t hls
                  have HS := hidd (fun (lo' hi' : Int) (a1 : lo' ≤ lo) (a2 : hi ≤ hi') (a3 : lo' ≤ atf (L s) (X s) t ∨ lo' ≤ -127) (a4 : atf (L s) (X s) t ≤ hi') => (show ∀ i, i < s + 1 → (lo' ≤ atf (L i) (X i) t ∨ lo' ≤ -127) ∧ atf (L i) (X i) t ≤ hi' from fun i hi0 => by
                    by_cases e : i = s
                    · subst e; exact ⟨a3, a4⟩
                    · have := HB.out i (by omega)
                      omega))
                  generalize atf (L s) (X s) t = x at *
                  clear hcs es HB
                  by_cases e1 : x = -128
                  · subst e1
                    by_cases e2 : -127 < lo
                    · go_wp2
                      go_round
                      case rel => exact ⟨s + 1, -127, hi, by omega, by go_num, rfl, rfl, by omega, by omega, by omega, by omega, hidd (HS.out _ _ (by omega) (by omega) (by omega) (by omega))⟩
                      case measure => simp [intOf]; omega
                    · go_wp2
                      go_round
                      case rel => exact ⟨s + 1, lo, hi, by omega, by go_num, rfl, rfl, by omega, by omega, by omega, by omega, hidd (HS.out _ _ (by omega) (by omega) (by omega) (by omega))⟩
                      case measure => simp [intOf]; omega
                  · by_cases e2 : x < lo
                    · by_cases e3 : hi < x
                      · go_wp2
                        go_round
                        case rel => exact ⟨s + 1, x, x, by omega, by go_num, rfl, rfl, by omega, by omega, by omega, by omega, hidd (HS.out _ _ (by omega) (by omega) (by omega) (by omega))⟩
                        case measure => simp [intOf]; omega
                      · go_wp2
                        go_round
                        case rel => exact ⟨s + 1, x, hi, by omega, by go_num, rfl, rfl, by omega, by omega, by omega, by omega, hidd (HS.out _ _ (by omega) (by omega) (by omega) (by omega))⟩
                        case measure => simp [intOf]; omega
                    · by_cases e3 : hi < x
                      · go_wp2
                        go_round
                        case rel => exact ⟨s + 1, lo, x, by omega, by go_num, rfl, rfl, by omega, by omega, by omega, by omega, hidd (HS.out _ _ (by omega) (by omega) (by omega) (by omega))⟩
                        case measure => simp [intOf]; omega
                      · go_wp2
                        go_round
                        case rel => exact ⟨s + 1, lo, hi, by omega, by go_num, rfl, rfl, by omega, by omega, by omega, by omega, hidd (HS.out _ _ (by omega) (by omega) (by omega) (by omega))⟩
                        case measure => simp [intOf]; omega
                · have hsn' : s = k := by omega
                  have hb := BT.out lo hi (fun i hi0 => ⟨(HB.out i (by omega)).1, (HB.out i (by omega)).2, m0⟩) l1
                  have za := ZA.out
                  go_wp2
                  go_round
                  case rel => exact ⟨t + 1, by omega, by go_num⟩
                  case measure => simp [intOf]; omega
            · go_wp2_with fail
              refine (order_any hD2 (by omega)).mono ?_
              rintro e w3 ⟨pv, p, rfl, hp, ⟨oo, oc, rfl, hrp⟩, hf3⟩
              obtain ⟨bp, op, rfl, hcp⟩ := hrp.one h0
              have HP := hidd hcp
              have hpl := hidd hp.lt
              have hra3 := hra.fresh hf3
              have hvs3 := hvs2.fresh hf3
              have hws3 := hws2.fresh hf3
              have hts3 := hts2.fresh hf3
              have hF3 := fresh_trans hF2 hf3
              have CL3 := hidd (fun j hj => fresh_cell hf3 (CL.out j hj))
              obtain ⟨bw, ow, rfl, hcw⟩ := hws3.one h0
              have CW := hidd hcw
              clear hra hvs2 hws2 hts2 hF2 hf3 CL hcw hcp hlt ht hD2
              go_wp2
              go_loopw [24, 25, 26] (fun m z i wt => ∃ s : Nat, s ≤ k ∧ i = .int .i64 s ∧ Own wt w3.heap.size 23 1 m s (fun i => .slice (A' (p i)) (L 0) (K' (p i))) ∧ Own wt w3.heap.size 2 1 z s (fun i => .int .i64 (wgt nw g (p i))) ∧ Off m z ∧ Below w3.heap.size w3 wt) (fun _ _ i _ => k - (intOf i).toNat)
              case atStart => exact ⟨0, by omega, rfl, own_nil _ _ _ _ _, own_nil _ _ _ _ _, off_nil _, Below.refl _ _⟩
              case round =>
                obtain ⟨s, hsn, rfl, om, oz, fmz, hft⟩ := hrel
                have hst := hft.size
                by_cases hls : s < k
                · have hpt := hpl.out s hls
                  have q1 := fresh_cell hft (HP.out s hls)
                  have q2 := fresh_cell hft (CL3.out _ hpt)
                  go_wp2_with (at_builtin; refine wpList_app1 _ rfl _ _ 55 rfl _ 23 (.slice none 0 0) 24 Try.underlying55 infoS8 rfl _ s _ rfl (om.kept (fresh_alloc _ _)) _ 1 rfl (new_val _ _ rfl) rfl (by omega) (by omega) (by simp; omega) ?_)
                  intro m' w6 nm A1
                  have hf6 := A1.below (hft.alloc hst _) (om.kept (fresh_alloc _ _)) (Nat.le_refl _) (by simp; omega)
                  have oz6 := A1.own (oz.kept (fresh_alloc _ _)) fmz
                  have fmz6 := A1.off (oz.kept (fresh_alloc _ _)) fmz
                  have hs6 := hf6.size
                  clear A1 om oz fmz q1 q2 hft
                  have q1 := fresh_cell hf6 (HP.out s hls)
                  have q2 := fresh_cell hf6 (CW.out _ hpt)
                  go_wp2_with (at_builtin; refine wpList_app1 _ rfl _ _ 46 rfl _ 2 (.int .i64 0) 8 Try.underlying46 infoI64 rfl _ s _ rfl (oz6.kept (fresh_alloc _ _)) _ 1 rfl (new_cell _ _ _) rfl (by omega) (by omega) (by simp; omega) ?_)
                  intro z' w7 nz A2
                  have hf7 := A2.below (hf6.alloc hs6 _) (oz6.kept (fresh_alloc _ _)) (Nat.le_refl _) (by simp; omega)
                  have om7 := A2.own (nm.kept (fresh_alloc _ _)) fmz6.symm
                  have fmz7 := (A2.off (nm.kept (fresh_alloc _ _)) fmz6.symm).symm
                  clear A2 nm oz6 fmz6 q1 q2 hf6
                  go_wp2
                  go_roundw
                  case rel => exact ⟨s + 1, by omega, by go_num, om7, nz, fmz7, hf7⟩
                  case measure => simp [intOf]; omega
                · have hsn' : s = k := by omega
                  rw [hsn'] at om oz
                  obtain ⟨mo, mc, rfl, hm⟩ := om.rd
                  obtain ⟨zo, zc, rfl, hz⟩ := oz.rd
                  have hvs4 : Vs wr mo k mc (fun i => A' (p i)) (fun _ => L 0) (fun i => K' (p i)) (fun i j => atf (L (p i)) (X (p i)) j) := ⟨hm, fun i hi => (hvs3.row (p i) (hpl.out i hi)).fresh hft⟩
                  have hra4 := hra3.fresh hft
                  have hvl4 := hvs3.fresh hft
                  have hts4 := hts3.fresh hft
                  have hF4 := fresh_trans hF3 hft
                  clear hra3 hvs3 hts3 hF3 hft om oz fmz hm hws3
                  have qb := blend_ok hz hvs4 ⟨h0, fun _ _ => rfl, fun i _ => (wgt_bd nw g _).1, by rw [tot_moved (f := wgt nw g) hp]; exact hs⟩ (fun i _ => by have := wgt_bd nw g (p i); omega) (fun i j hi _ => BX.out _ j (hpl.out i hi)) (by omega) (by omega)
                  go_wp2_with fail
                  refine qb.mono ?_
                  rintro e w5 ⟨bb, F2, rfl, hbb, hrow2, hFb, hf5⟩
                  have hrb := (rowIs_rd hrow2 (by unfold maxLen; omega)).congr (cs' := fun j => .int .i8 (bln (wgt nw g) (fun i j => atf (L i) (X i) j) k j)) (fun j hj => by rw [hFb j (by omega)]; exact congrArg (Value.int .i8) (bln_moved (f := wgt nw g) (X := fun i j => atf (L i) (X i) j) hp))
                  have hra5 := hra4.fresh hf5
                  have hvl5 := hvl4.fresh hf5
                  have hts5 := hts4.fresh hf5
                  have hF5 := fresh_trans hF4 hf5
                  clear qb hrow2 hFb hbb hra4 hvl4 hts4 hF4 hf5 hz hvs4
                  have qb := blend_ok hts5 hvl5 ⟨h0, fun _ _ => rfl, fun i _ => by have := wgt_bd nw g i; omega, tot_three hk1 hs⟩ (fun i _ => by have := wgt_bd nw g i; omega) (fun i j hi _ => BX.out i j hi) (by omega) (by omega)
                  go_wp2_with fail
                  refine qb.mono ?_
                  rintro e w6 ⟨bc, F3, rfl, hbc, hrow3, hFc, hf6⟩
                  have hrc := (rowIs_rd hrow3 (by unfold maxLen; omega)).congr (cs' := fun j => .int .i8 (bln (wgt nw g) (fun i j => atf (L i) (X i) j) k j)) (fun j hj => by rw [hFc j (by omega)]; exact congrArg (Value.int .i8) (bln_three hk1 hs (fun i hi => BX.out i j hi)))
                  have hra6 := hra5.fresh hf6
                  have hrb6 := hrb.fresh hf6
                  have hF6 := fresh_trans hF5 hf6
                  clear qb hrow3 hFc hbc hra5 hrb hvl5 hts5 hF5 hf6
                  have qe := eqNarrow_same hra6 hrb6 (fun _ _ => rfl)
                  go_wp2_with fail
                  refine qe.mono ?_
                  rintro e w7 ⟨rfl, hf7⟩
                  have qe2 := eqNarrow_same (hra6.fresh hf7) (hrc.fresh hf7) (fun _ _ => rfl)
                  clear qe
                  go_wp2_with fail
                  refine qe2.mono ?_
                  rintro e w8 ⟨rfl, hf8⟩
                  clear qe2
                  go_wp2
                  go_ret
                  exact ⟨rfl, fresh_trans (fresh_trans hF6 hf7) hf8⟩
end Go.Proofs.Ytonhnlahpfkalaa
