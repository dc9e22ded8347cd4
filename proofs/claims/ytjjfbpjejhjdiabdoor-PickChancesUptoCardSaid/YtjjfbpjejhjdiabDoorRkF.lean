import Derived.Test.YtjjfbpjejhjdiabDoorRkE
import Derived.Test.YtjjfbpjejhjdiabDoorPkM
namespace Go.Proofs.YtjjfbpjejhjdiabDoor
open Go.RowKit
/-! The reference's Chances. -/
theorem pl_one (w : World) (base : Nat) (hb : base ≤ w.heap.size) (t x : Int) : PL (w.alloc (.cells #[.int .i64 t, .int .i64 x] 36)) base (some ⟨w.heap.size, 0, none⟩) 1 [(t, x)] := by
  have e0 : ldP [(t, x)] 0 = .int .i64 t := by simp [ldP]
  have e1 : ldP [(t, x)] 1 = .int .i64 x := by simp [ldP]
  refine ⟨by simp, .inr ⟨w.heap.size, 1, #[.int .i64 t, .int .i64 x], rfl, hb, by rw [Go.Deep.blk_alloc_new], Nat.le_refl _, by unfold maxLen; omega, rfl, ?_⟩⟩
  show _ = List.map (ldP [(t, x)]) [0, 1]
  simp [e0, e1]
theorem ldP_app {X : List (Int × Int)} (y : Int × Int) {j : Nat} (h : j < X.length * 2) : ldP X j = ldP (X ++ [y]) j := by
  unfold ldP
  have : (X ++ [y]).getD (j / 2) (0, 0) = X.getD (j / 2) (0, 0) := by
    rw [List.getD_eq_getElem?_getD, List.getD_eq_getElem?_getD, List.getElem?_append_left (by omega)]
  rw [this]
theorem ldP_last (X : List (Int × Int)) (y : Int × Int) {n : Nat} (hn : n = X.length) : ldP (X ++ [y]) (n * 2) = .int .i64 y.1 ∧ ldP (X ++ [y]) (n * 2 + 1) = .int .i64 y.2 := by
  obtain ⟨e0, e1⟩ := ldP_at (X ++ [y]) n
  rw [e0, e1]
  have : (X ++ [y]).getD n (0, 0) = y := by rw [hn]; simp
  rw [this]
  exact ⟨rfl, rfl⟩
theorem more_prep {w : World} {base : Nat} {v : Option Addr} {c : Nat} {temp : Int} {A : List (Int × Int)} (h : Own w base 36 2 (.slice v A.length c) A.length (ldP (weL temp A))) (t y : Int) :
    (∀ (w0 : World) (ty : TypeId) (i : Nat), i < 1 * 2 → (w0.alloc (.cells #[.int .i64 t, .int .i64 y] ty)).cell? ⟨w0.heap.size, i, none⟩ = some (ldP (weL temp A ++ [(t, y)]) (A.length * 2 + i))) ∧ (∀ i, i < 1 * 2 → (ldP (weL temp A ++ [(t, y)]) (A.length * 2 + i)).oneCell' = true) ∧ Own w base 36 2 (.slice v A.length c) A.length (ldP (weL temp A ++ [(t, y)])) := by
  have hla : (weL temp A).length = A.length := weL_len _ _
  obtain ⟨q0, q1⟩ := ldP_last (weL temp A) (t, y) (n := A.length) hla.symm
  refine ⟨fun w0 ty i hi => ?_, fun i hi => ?_, h.congr (fun i hi => ldP_app _ (by rw [hla]; exact hi))⟩
  · match i, hi with
    | 0, _ => show _ = some (ldP _ (A.length * 2)); rw [q0]; simp
    | 1, _ => rw [q1]; simp
  · match i, hi with
    | 0, _ => show (ldP _ (A.length * 2)).oneCell' = true; rw [q0]; rfl
    | 1, _ => rw [q1]; rfl
set_option maxRecDepth 20000 in
set_option maxHeartbeats 6400000 in
theorem chances_ref_ok (p : Prm) (ok : p.Ok) {w : World} {ao so bo : Option Addr} {n ca m cb l cl : Nat} {f s : Nat → Int} {b : Nat → Bool} (h : In3 w ao so bo n ca m cb l cl f s b) :
    Calls Tryd.prog 12 #[.agg #[.int .i64 p.temp, .int .i64 p.topk, .int .i64 p.topp, .int .i64 p.pen, .int .u64 (p.seed : Int)], .slice ao n ca, .slice so m cb, .slice bo l cl] w fun e w' => ∃ u c, e = .returned (.tuple #[.slice u (chOf p n m l f s b).length c, .int .i64 0]) ∧ PL w' w.heap.size u c (chOf p n m l f s b) ∧ Below w.heap.size w w' := by
  have HC : Hid (∀ w1, Calls Tryd.prog 31 #[.agg #[.int .i64 p.temp, .int .i64 p.topk, .int .i64 p.topp, .int .i64 p.pen, .int .u64 (p.seed : Int)]] w1 fun e w' => e = .returned (.int .i64 0) ∧ Below w1.heap.size w1 w') := fun w1 => (check_ref p w1).mono fun e w' ⟨⟨er, h1, h2⟩, h3⟩ => by
    rcases h2 with ⟨_, rfl⟩ | ⟨o, _⟩
    · exact ⟨h1, h3⟩
    · exact absurd ok o
  have f1 := fresh_alloc w (.cells #[.int .i64 p.temp, .int .i64 p.topk, .int .i64 p.topp, .int .i64 p.pen, .int .u64 (p.seed : Int)] 24)
  have HP0 := hidd (PrmAt.new w p 24)
  have HI := hidd h
  have hn := h.hn
  have hle := h.lo.le
  have htop := h.lo.top
  unfold maxLen at htop
  have k0 := ok.k0
  have k1 := ok.k1
  have t0 := ok.t0
  have t1 := ok.t1
  have HSC : Hid (∀ w1, Below w.heap.size w w1 → ∀ t, t < n → Calls Tryd.prog 32 #[.agg #[.int .i64 p.temp, .int .i64 p.topk, .int .i64 p.topp, .int .i64 p.pen, .int .u64 (p.seed : Int)], .slice ao n ca, .slice so m cb, .int .i64 (t : Int)] w1 fun e w' => e = .returned (.int .i64 (scF p.pen f (seenB s m) t)) ∧ Below w1.heap.size w1 w') := fun w1 hw t ht => score_ref p ok (h.lo.fresh hw) (h.se.fresh hw) h.fb ht
  have HGB : Hid (∀ i, -67108864 ≤ scF p.pen f (seenB s m) i ∧ scF p.pen f (seenB s m) i ≤ 67108864) := fun i => scF_bd ok.n0 ok.n1 f _ i
  have HCH : Hid (chOf p n m l f s b = chL p (scF p.pen f (seenB s m)) n (mayB l b)) := rfl
  have HTH : Hid (∀ (w1 : World) (base c : Nat) (u : Option Addr) (L : List (Int × Int)), PL w1 base u c L → L.length ≤ 1048576 → (∀ x ∈ L, 0 ≤ x.2 ∧ x.2 ≤ 65536) → Calls Tryd.prog 37 #[.slice u L.length c, .int .i64 p.topp] w1 fun e w' => ∃ v c', e = .returned (.slice v (L.take (cutN (goalOf p.topp L) L)).length c') ∧ PL w' w1.heap.size v c' (L.take (cutN (goalOf p.topp L) L)) ∧ Below w1.heap.size w1 w') := fun w1 base c u L h1 h2 h3 => thin_ref h1 h2 h3 p.topp ok.p0 ok.p1
  have hsz : 0 < w.heap.size := by have := h.ta.lt; omega
  clear h
  generalize chOf p n m l f s b = CL9 at *
  generalize scF p.pen f (seenB s m) = sc at *
  go_enter Tryd.func12, Tryd.ntmps12
  go_wp2_with fail
  refine (HC.out _).mono ?_
  rintro e w1 ⟨rfl, f2⟩
  have F1 := hidd (fresh_trans f1 f2)
  have HP1 := hidd (HP0.out.fresh f2)
  clear f1 f2 HP0 HC
  go_wp2
  go_loopw [11, 12] (fun v i wr => ∃ k : Nat, k ≤ n ∧ i = .int .i64 (k : Int) ∧ Own wr w1.heap.size 2 1 v k (fun j => .int .i64 (sc j)) ∧ Below w1.heap.size w1 wr) (fun _ i _ => n - (intOf i).toNat)
  case atStart => exact ⟨0, Nat.zero_le _, by simp, own_nil _ _ _ _ _, Below.refl _ _⟩
  case round =>
    obtain ⟨k, hk, rfl, ho, hw⟩ := hrel
    have hs1 := hw.size
    obtain ⟨v', c', rfl, hrd⟩ := ho.rd
    have hpp := HP1.out.fresh hw
    have r0 := hpp.c0
    have r1 := hpp.c1
    have r2 := hpp.c2
    have r3 := hpp.c3
    have r4 := hpp.c4
    by_cases hlt : k < n
    · have i1 : (k : Int) < (n : Int) := by omega
      have HS := hidd (HSC.out wr (fresh_trans F1.out hw) k hlt)
      have HO := hidd ho
      clear ho hrd hpp
      go_wp2_with fail
      refine HS.out.mono ?_
      rintro e w2 ⟨rfl, f3⟩
      have hw2 := fresh_trans hw f3
      have hs2 := hw2.size
      have HO2 := hidd (HO.out.kept f3)
      clear r0 r1 r2 r3 r4 f3
      go_wp2_with (at_builtin; refine wpList_app1 _ rfl _ _ 25 rfl w1.heap.size 2 (.int .i64 0) 8 Tryd.underlying25 infoW rfl _ k (fun j => .int .i64 (sc j)) rfl (HO2.out.kept (fresh_alloc _ _)) _ 1 rfl (new_cell _ _ _) rfl (by omega) (by omega) (by simp; omega) ?_)
      intro v9 w9 ho9 ha9
      have hw9 := ha9.below (hw2.alloc hs2 _) (HO2.out.kept (fresh_alloc _ _)) (Nat.le_refl _) (by simp; omega)
      go_wp2
      go_roundw
      case rel => exact ⟨k + 1, by omega, by go_num, ho9, hw9⟩
      case measure => simp [intOf]; omega
    · obtain rfl : k = n := by omega
      have HRD := hidd (Own.rda' ho)
      have hls := Own.les ho
      have FW := hidd (fresh_trans F1.out hw)
      have HPP := hidd hpp
      clear ho hrd hpp hw r0 r1 r2 r3 r4 HP1
      go_wp2_with fail
      refine (order_ref HRD.out hn).mono ?_
      rintro e w3 ⟨uo, co, rfl, hor, f4⟩
      have HOR := hidd (Own.rda' hor)
      have hlo := Own.les hor
      have HSR := hidd (HRD.out.fresh f4)
      have HP3 := hidd (HPP.out.fresh f4)
      have F3 := hidd (fresh_trans FW.out f4)
      clear hor f4 HRD HPP FW
      go_wp2
      go_loopw [15, 16, 17] (fun v x i wz => ∃ j : Nat, j ≤ k ∧ i = .int .i64 (j : Int) ∧ Hid (∃ bx : Int, x = .int .i64 bx ∧ (gatL p.topk sc k (mayB l b) j ≠ [] → bx = ((gatL p.topk sc k (mayB l b) j).getD 0 (0, 0)).2)) ∧ Hid (p.temp = 0 → gatL p.topk sc k (mayB l b) j = []) ∧ Own wz w3.heap.size 36 2 v (gatL p.topk sc k (mayB l b) j).length (ldP (weL p.temp (gatL p.topk sc k (mayB l b) j))) ∧ Below w3.heap.size w3 wz) (fun _ _ i _ => k - (intOf i).toNat)
      case atStart => exact ⟨0, Nat.zero_le _, by simp, ⟨0, by first | rfl | simp, fun q => absurd (gatL_zero _ _ _ _) q⟩, fun _ => gatL_zero _ _ _ _, by rw [gatL_zero]; exact own_nil _ _ _ _ _, Below.refl _ _⟩
      case round =>
        obtain ⟨j, hj, rfl, HBX, HT0, ho, hw⟩ := hrel
        obtain ⟨bx, rfl, hbx⟩ := HBX.out
        have hs1 := hw.size
        obtain ⟨v2, c2, rfl, hrd⟩ := ho.rd
        have hpp := HP3.out.fresh hw
        have r0 := hpp.c0
        have r1 := hpp.c1
        have r2 := hpp.c2
        have hgl := gatL_len p.topk sc k (mayB l b) j
        by_cases hlt : j < k
        · obtain ⟨b1, o1, rfl, hc1⟩ := (HOR.out.fresh hw).one (by omega)
          obtain ⟨b2, o2, rfl, hc2⟩ := (HSR.out.fresh hw).one (by omega)
          have d := hc1 j hlt
          obtain ⟨t, htt⟩ : ∃ t, t = sg sc k j := ⟨_, rfl⟩
          rw [← htt] at d
          have htl : t < k := by rw [htt]; exact sg_lt hlt
          have d2 := hc2 t htl
          obtain ⟨yv, hyv⟩ : ∃ y, y = sc t := ⟨_, rfl⟩
          rw [← hyv] at d2
          have yb := HGB.out t
          rw [← hyv] at yb
          have HTE : Hid (sg sc k j = t) := htt.symm
          have HYE : Hid (sc t = yv) := hyv.symm
          have HAC := allowed_ref (HI.out.al.fresh (fresh_trans F3.out hw)) t
          have HBB : Hid (gatL p.topk sc k (mayB l b) j ≠ [] → -67108864 ≤ bx ∧ bx ≤ 67108864) := fun q => by
            rw [hbx q]
            have hm : (gatL p.topk sc k (mayB l b) j).getD 0 (0, 0) ∈ gatL p.topk sc k (mayB l b) j := getD_mem (by cases hg : gatL p.topk sc k (mayB l b) j with | nil => exact absurd hg q | cons a r => simp)
            have h1 := List.mem_filter.1 (topL_mem hm)
            obtain ⟨i9, _, e9⟩ := ordL_mem.1 (List.mem_of_mem_take h1.1)
            rw [e9]
            exact HGB.out i9
          have hskip := fun q => gatL_skip (k := p.topk) (g := sc) (n := k) (j := j) (M := mayB l b) hlt q
          have hfull := fun q0 q1 q2 => gatL_full (k := p.topk) q0 (g := sc) (n := k) (j := j) (M := mayB l b) hlt q1 q2
          have hmore := fun q1 q2 => gatL_more (k := p.topk) k0 (g := sc) (n := k) (j := j) (M := mayB l b) hlt q1 q2
          have HSK := hidd hskip
          have HFU := hidd hfull
          have HMO := hidd hmore
          have i0 : (0 : Int) ≤ (j : Int) := by omega
          have i1 : (j : Int) < (k : Int) := by omega
          have i2 : (0 : Int) ≤ (t : Int) := by omega
          have i3 : (t : Int) < (k : Int) := by omega
          have HBE := hidd hbx
          clear hc1 hc2 htt hyv hskip hfull hmore hpp hbx
          cases hM : mayB l b t with
          | false =>
            rw [hM] at HAC
            have HAQ := hidd HAC
            have HN := hidd (HSK.out (by rw [HTE.out]; exact hM))
            clear HAC hM
            have HOO := hidd ho
            clear ho hrd
            go_wp2_with fail
            refine HAQ.out.mono ?_
            rintro e w8 ⟨rfl, h8⟩
            rw [h8]
            clear h8
            
            go_wp2
            go_roundw
            case rel => exact ⟨j + 1, by omega, by go_num, ⟨bx, rfl, fun q => by rw [HN.out] at q ⊢; exact HBE.out q⟩, fun q => by rw [HN.out]; exact HT0.out q, by rw [HN.out]; exact HOO.out, hw⟩
            case measure => simp [intOf]; omega
          | true =>
            rw [hM] at HAC
            have HAQ := hidd HAC
            have HMt : Hid (mayB l b (sg sc k j) = true) := by
              show _ = _
              rw [HTE.out]; exact hM
            clear HAC hM
            go_wp2_with fail
            refine HAQ.out.mono ?_
            rintro e w8 ⟨rfl, h8⟩
            rw [h8]
            clear h8
            by_cases g0 : 0 < p.topk
            · by_cases g1 : ((gatL p.topk sc k (mayB l b) j).length : Int) = p.topk
              · have HN := hidd (HFU.out g0 HMt.out g1)
                have HOO := hidd ho
                have g2 : (((gatL p.topk sc k (mayB l b) j).length : Int) == p.topk) = true := by simpa using g1
                clear ho hrd
                go_wp2
                go_roundw
                case rel => exact ⟨j + 1, by omega, by go_num, ⟨bx, rfl, fun q => by rw [HN.out] at q ⊢; exact HBE.out q⟩, fun q => by rw [HN.out]; exact HT0.out q, by rw [HN.out]; exact HOO.out, hw⟩
                case measure => simp [intOf]; omega
              · have HMORE := hidd (HMO.out HMt.out (.inr g1))
                have g2 : (((gatL p.topk sc k (mayB l b) j).length : Int) == p.topk) = false := by simpa using g1
                have g3 : decide (((gatL p.topk sc k (mayB l b) j).length : Int) = p.topk) = false := decide_eq_false g1
                have HGF : Hid (gatL p.topk sc k (mayB l b) j = [] → ∃ r, canL sc k (mayB l b) = ((sg sc k j : Int), sc (sg sc k j)) :: r) := fun q => gat_first k0 hlt HMt.out q
                clear HSK HFU HMO
                generalize gatL p.topk sc k (mayB l b) j = A at *
                by_cases hA0 : A = []
                · have HA0 := hidd hA0
                  have la : ((A.length : Int) == 0) = true := by rw [hA0]; rfl
                  have la2 : (A.length : Int) = 0 := by rw [hA0]; rfl
                  by_cases ht0 : p.temp = 0
                  · have e0 : (p.temp == 0) = true := by simp [ht0]
                    have HE : Hid (CL9 = [((t : Int), 65536)]) := by
                      show _ = _
                      rw [HCH.out]
                      unfold chL
                      obtain ⟨r9, e9⟩ := HGF.out HA0.out
                      rw [if_pos ht0, e9, HTE.out]
                      rfl
                    go_wp2
                    go_ret2
                    rw [HE.out]
                    exact ⟨_, 1, rfl, pl_one wr w.heap.size (by have := F3.out.size; omega) _ _, (fresh_trans F3.out hw).alloc (by have := F3.out.size; omega) _⟩
                  · subst hA0
                    clear la la2 HA0
                    have e0 : (p.temp == 0) = false := by simpa using ht0
                    have e1 : decide (p.temp = 0) = false := decide_eq_false ht0
                    have w1' : IntKind.i64.wrap (yv - yv) = yv - yv := by rw [IntKind.wrap_i64]; omega
                    have w2' : IntKind.i64.wrap ((yv - yv) * 16384) = (yv - yv) * 16384 := by rw [IntKind.wrap_i64]; omega
                    have HDV : Hid (∀ q, Calls Tryd.prog 35 #[.int .i64 (0), .int .i64 p.temp] (wr.drewN q) fun e w' => e = .returned (.int .i64 (Fix.dv (0) p.temp)) ∧ w' = wr.drewN q) := fun q => div_ref _ _ _ (by omega) (by omega) (by omega) (by omega)
                    have HWT : Hid (wt p.temp (bestOf ([] : List (Int × Int)) yv) yv = Fix.ex (Fix.dv (0) p.temp)) := by
                      show _ = _
                      unfold bestOf wt
                      rw [if_pos rfl]
                      rw [show (yv - yv) * 16384 = 0 by omega]
                    generalize Fix.dv (0) p.temp = zv at *
                    have hgn : gatL p.topk sc k (mayB l b) (j + 1) = ([] : List (Int × Int)) ++ [((t : Int), yv)] := by rw [HMORE.out, HTE.out, HYE.out]
                    have hwn : weL p.temp (([] : List (Int × Int)) ++ [((t : Int), yv)]) = weL p.temp ([] : List (Int × Int)) ++ [((t : Int), Fix.ex zv)] := by rw [weL_app, HWT.out]
                    have hmp := more_prep ho (t : Int) (Fix.ex zv)
                    have HX : Hid (∀ (w0 : World) (ty : TypeId) (i : Nat), i < 1 * 2 → (w0.alloc (.cells #[.int .i64 (t : Int), .int .i64 (Fix.ex zv)] ty)).cell? ⟨w0.heap.size, i, none⟩ = some (ldP (weL p.temp ([] : List (Int × Int)) ++ [((t : Int), Fix.ex zv)]) (0 * 2 + i))) := hmp.1
                    have HONE : Hid (∀ i, i < 1 * 2 → (ldP (weL p.temp ([] : List (Int × Int)) ++ [((t : Int), Fix.ex zv)]) (0 * 2 + i)).oneCell' = true) := hmp.2.1
                    have HO3 : Hid (Own wr w3.heap.size 36 2 (.slice v2 0 c2) 0 (ldP (weL p.temp ([] : List (Int × Int)) ++ [((t : Int), Fix.ex zv)]))) := hmp.2.2
                    have HGN := hidd (And.intro hgn hwn)
                    have HHD : Hid (((([] : List (Int × Int)) ++ [((t : Int), yv)]).getD 0 (0, 0)).2 = yv) := by
                      show _ = _
                      rfl
                    clear hgn hwn hmp ho hrd
                    go_wp2
                    go_quiet (exact Calls.quiet_of_same (HDV.out _))
                    go_wp2_with fail
                    refine (exp_ref _ _).mono ?_
                    rintro e w8 ⟨rfl, h8⟩
                    rw [h8]
                    clear h8
                    go_wp2_with (at_builtin; refine wpList_app _ rfl _ _ 29 rfl w3.heap.size 36 (.agg #[.int .i64 0, .int .i64 0]) 2 16 Tryd.underlying29 infoCh rfl (by decide) _ 0 (ldP (weL p.temp ([] : List (Int × Int)) ++ [((t : Int), Fix.ex zv)])) rfl ((HO3.out.kept (fresh_drewN wr _)).kept (fresh_alloc _ _)) _ 1 1 rfl (HX.out _ _) HONE.out (by decide) (by unfold maxLen; omega) (by omega) (by simp; omega) ?_)
                    intro v9 w9 ho9 ha9
                    have hw9 := ha9.below ((below_drewN hw _).alloc (by simpa using hs1) _) ((HO3.out.kept (fresh_drewN wr _)).kept (fresh_alloc _ _)) (Nat.le_refl _) (by simp; omega)
                    go_wp2
                    go_roundw
                    case rel =>
                      refine ⟨j + 1, by omega, by go_num, ⟨_, rfl, fun _ => ?_⟩, fun q => absurd q ht0, ?_, hw9⟩
                      · rw [HGN.out.1, HHD.out]
                      · rw [HGN.out.1, HGN.out.2, show (([] : List (Int × Int)) ++ [((t : Int), yv)]).length = 0 + 1 by simp]
                        exact ho9
                    case measure => simp [intOf]; omega
                · have la : ((A.length : Int) == 0) = false := by
                    cases hx : ((A.length : Int) == 0) with
                    | false => rfl
                    | true => simp at hx; exact absurd hx hA0
                  have ht0 : ¬ p.temp = 0 := fun q => hA0 (HT0.out q)
                  have bxb : -67108864 ≤ bx ∧ bx ≤ 67108864 := HBB.out hA0
                  have e0 : (p.temp == 0) = false := by simpa using ht0
                  have e1 : decide (p.temp = 0) = false := decide_eq_false ht0
                  have w1' : IntKind.i64.wrap (yv - bx) = yv - bx := by rw [IntKind.wrap_i64]; omega
                  have w2' : IntKind.i64.wrap ((yv - bx) * 16384) = (yv - bx) * 16384 := by rw [IntKind.wrap_i64]; omega
                  have HDV : Hid (∀ q, Calls Tryd.prog 35 #[.int .i64 ((yv - bx) * 16384), .int .i64 p.temp] (wr.drewN q) fun e w' => e = .returned (.int .i64 (Fix.dv ((yv - bx) * 16384) p.temp)) ∧ w' = wr.drewN q) := fun q => div_ref _ _ _ (by omega) (by omega) (by omega) (by omega)
                  have HWT : Hid (wt p.temp (bestOf A yv) yv = Fix.ex (Fix.dv ((yv - bx) * 16384) p.temp)) := by
                    show _ = _
                    unfold bestOf wt
                    rw [if_neg hA0, ← HBE.out hA0]
                  generalize Fix.dv ((yv - bx) * 16384) p.temp = zv at *
                  have hgn : gatL p.topk sc k (mayB l b) (j + 1) = A ++ [((t : Int), yv)] := by rw [HMORE.out, HTE.out, HYE.out]
                  have hwn : weL p.temp (A ++ [((t : Int), yv)]) = weL p.temp A ++ [((t : Int), Fix.ex zv)] := by rw [weL_app, HWT.out]
                  have hmp := more_prep ho (t : Int) (Fix.ex zv)
                  have HX : Hid (∀ (w0 : World) (ty : TypeId) (i : Nat), i < 1 * 2 → (w0.alloc (.cells #[.int .i64 (t : Int), .int .i64 (Fix.ex zv)] ty)).cell? ⟨w0.heap.size, i, none⟩ = some (ldP (weL p.temp A ++ [((t : Int), Fix.ex zv)]) (A.length * 2 + i))) := hmp.1
                  have HONE : Hid (∀ i, i < 1 * 2 → (ldP (weL p.temp A ++ [((t : Int), Fix.ex zv)]) (A.length * 2 + i)).oneCell' = true) := hmp.2.1
                  have HO3 : Hid (Own wr w3.heap.size 36 2 (.slice v2 A.length c2) A.length (ldP (weL p.temp A ++ [((t : Int), Fix.ex zv)]))) := hmp.2.2
                  have HGN := hidd (And.intro hgn hwn)
                  have HHD : Hid (((A ++ [((t : Int), yv)]).getD 0 (0, 0)).2 = bx) := by
                    show _ = _
                    rw [HBE.out hA0]; cases A with
                    | nil => exact absurd rfl hA0
                    | cons a r => rfl
                  clear hgn hwn hmp ho hrd
                  go_wp2
                  go_quiet (exact Calls.quiet_of_same (HDV.out _))
                  go_wp2_with fail
                  refine (exp_ref _ _).mono ?_
                  rintro e w8 ⟨rfl, h8⟩
                  rw [h8]
                  clear h8
                  go_wp2_with (at_builtin; refine wpList_app _ rfl _ _ 29 rfl w3.heap.size 36 (.agg #[.int .i64 0, .int .i64 0]) 2 16 Tryd.underlying29 infoCh rfl (by decide) _ A.length (ldP (weL p.temp A ++ [((t : Int), Fix.ex zv)])) rfl ((HO3.out.kept (fresh_drewN wr _)).kept (fresh_alloc _ _)) _ 1 1 rfl (HX.out _ _) HONE.out (by decide) (by unfold maxLen; omega) (by omega) (by simp; omega) ?_)
                  intro v9 w9 ho9 ha9
                  have hw9 := ha9.below ((below_drewN hw _).alloc (by simpa using hs1) _) ((HO3.out.kept (fresh_drewN wr _)).kept (fresh_alloc _ _)) (Nat.le_refl _) (by simp; omega)
                  go_wp2
                  go_roundw
                  case rel =>
                    refine ⟨j + 1, by omega, by go_num, ⟨_, rfl, fun _ => ?_⟩, fun q => absurd q ht0, ?_, hw9⟩
                    · rw [HGN.out.1, HHD.out]
                    · rw [HGN.out.1, HGN.out.2, show (A ++ [((t : Int), yv)]).length = A.length + 1 by simp]
                      exact ho9
                  case measure => simp [intOf]; omega
            · have HMORE := hidd (HMO.out HMt.out (.inl (by omega)))
              have HGF : Hid (gatL p.topk sc k (mayB l b) j = [] → ∃ r, canL sc k (mayB l b) = ((sg sc k j : Int), sc (sg sc k j)) :: r) := fun q => gat_first k0 hlt HMt.out q
              clear HSK HFU HMO
              generalize gatL p.topk sc k (mayB l b) j = A at *
              by_cases hA0 : A = []
              · have HA0 := hidd hA0
                have la : ((A.length : Int) == 0) = true := by rw [hA0]; rfl
                have la2 : (A.length : Int) = 0 := by rw [hA0]; rfl
                by_cases ht0 : p.temp = 0
                · have e0 : (p.temp == 0) = true := by simp [ht0]
                  have HE : Hid (CL9 = [((t : Int), 65536)]) := by
                    show _ = _
                    rw [HCH.out]
                    unfold chL
                    obtain ⟨r9, e9⟩ := HGF.out HA0.out
                    rw [if_pos ht0, e9, HTE.out]
                    rfl
                  go_wp2
                  go_ret2
                  rw [HE.out]
                  exact ⟨_, 1, rfl, pl_one wr w.heap.size (by have := F3.out.size; omega) _ _, (fresh_trans F3.out hw).alloc (by have := F3.out.size; omega) _⟩
                · subst hA0
                  clear la la2 HA0
                  have e0 : (p.temp == 0) = false := by simpa using ht0
                  have e1 : decide (p.temp = 0) = false := decide_eq_false ht0
                  have w1' : IntKind.i64.wrap (yv - yv) = yv - yv := by rw [IntKind.wrap_i64]; omega
                  have w2' : IntKind.i64.wrap ((yv - yv) * 16384) = (yv - yv) * 16384 := by rw [IntKind.wrap_i64]; omega
                  have HDV : Hid (∀ q, Calls Tryd.prog 35 #[.int .i64 (0), .int .i64 p.temp] (wr.drewN q) fun e w' => e = .returned (.int .i64 (Fix.dv (0) p.temp)) ∧ w' = wr.drewN q) := fun q => div_ref _ _ _ (by omega) (by omega) (by omega) (by omega)
                  have HWT : Hid (wt p.temp (bestOf ([] : List (Int × Int)) yv) yv = Fix.ex (Fix.dv (0) p.temp)) := by
                    show _ = _
                    unfold bestOf wt
                    rw [if_pos rfl]
                    rw [show (yv - yv) * 16384 = 0 by omega]
                  generalize Fix.dv (0) p.temp = zv at *
                  have hgn : gatL p.topk sc k (mayB l b) (j + 1) = ([] : List (Int × Int)) ++ [((t : Int), yv)] := by rw [HMORE.out, HTE.out, HYE.out]
                  have hwn : weL p.temp (([] : List (Int × Int)) ++ [((t : Int), yv)]) = weL p.temp ([] : List (Int × Int)) ++ [((t : Int), Fix.ex zv)] := by rw [weL_app, HWT.out]
                  have hmp := more_prep ho (t : Int) (Fix.ex zv)
                  have HX : Hid (∀ (w0 : World) (ty : TypeId) (i : Nat), i < 1 * 2 → (w0.alloc (.cells #[.int .i64 (t : Int), .int .i64 (Fix.ex zv)] ty)).cell? ⟨w0.heap.size, i, none⟩ = some (ldP (weL p.temp ([] : List (Int × Int)) ++ [((t : Int), Fix.ex zv)]) (0 * 2 + i))) := hmp.1
                  have HONE : Hid (∀ i, i < 1 * 2 → (ldP (weL p.temp ([] : List (Int × Int)) ++ [((t : Int), Fix.ex zv)]) (0 * 2 + i)).oneCell' = true) := hmp.2.1
                  have HO3 : Hid (Own wr w3.heap.size 36 2 (.slice v2 0 c2) 0 (ldP (weL p.temp ([] : List (Int × Int)) ++ [((t : Int), Fix.ex zv)]))) := hmp.2.2
                  have HGN := hidd (And.intro hgn hwn)
                  have HHD : Hid (((([] : List (Int × Int)) ++ [((t : Int), yv)]).getD 0 (0, 0)).2 = yv) := by
                    show _ = _
                    rfl
                  clear hgn hwn hmp ho hrd
                  go_wp2
                  go_quiet (exact Calls.quiet_of_same (HDV.out _))
                  go_wp2_with fail
                  refine (exp_ref _ _).mono ?_
                  rintro e w8 ⟨rfl, h8⟩
                  rw [h8]
                  clear h8
                  go_wp2_with (at_builtin; refine wpList_app _ rfl _ _ 29 rfl w3.heap.size 36 (.agg #[.int .i64 0, .int .i64 0]) 2 16 Tryd.underlying29 infoCh rfl (by decide) _ 0 (ldP (weL p.temp ([] : List (Int × Int)) ++ [((t : Int), Fix.ex zv)])) rfl ((HO3.out.kept (fresh_drewN wr _)).kept (fresh_alloc _ _)) _ 1 1 rfl (HX.out _ _) HONE.out (by decide) (by unfold maxLen; omega) (by omega) (by simp; omega) ?_)
                  intro v9 w9 ho9 ha9
                  have hw9 := ha9.below ((below_drewN hw _).alloc (by simpa using hs1) _) ((HO3.out.kept (fresh_drewN wr _)).kept (fresh_alloc _ _)) (Nat.le_refl _) (by simp; omega)
                  go_wp2
                  go_roundw
                  case rel =>
                    refine ⟨j + 1, by omega, by go_num, ⟨_, rfl, fun _ => ?_⟩, fun q => absurd q ht0, ?_, hw9⟩
                    · rw [HGN.out.1, HHD.out]
                    · rw [HGN.out.1, HGN.out.2, show (([] : List (Int × Int)) ++ [((t : Int), yv)]).length = 0 + 1 by simp]
                      exact ho9
                  case measure => simp [intOf]; omega
              · have la : ((A.length : Int) == 0) = false := by
                  cases hx : ((A.length : Int) == 0) with
                  | false => rfl
                  | true => simp at hx; exact absurd hx hA0
                have ht0 : ¬ p.temp = 0 := fun q => hA0 (HT0.out q)
                have bxb : -67108864 ≤ bx ∧ bx ≤ 67108864 := HBB.out hA0
                have e0 : (p.temp == 0) = false := by simpa using ht0
                have e1 : decide (p.temp = 0) = false := decide_eq_false ht0
                have w1' : IntKind.i64.wrap (yv - bx) = yv - bx := by rw [IntKind.wrap_i64]; omega
                have w2' : IntKind.i64.wrap ((yv - bx) * 16384) = (yv - bx) * 16384 := by rw [IntKind.wrap_i64]; omega
                have HDV : Hid (∀ q, Calls Tryd.prog 35 #[.int .i64 ((yv - bx) * 16384), .int .i64 p.temp] (wr.drewN q) fun e w' => e = .returned (.int .i64 (Fix.dv ((yv - bx) * 16384) p.temp)) ∧ w' = wr.drewN q) := fun q => div_ref _ _ _ (by omega) (by omega) (by omega) (by omega)
                have HWT : Hid (wt p.temp (bestOf A yv) yv = Fix.ex (Fix.dv ((yv - bx) * 16384) p.temp)) := by
                  show _ = _
                  unfold bestOf wt
                  rw [if_neg hA0, ← HBE.out hA0]
                generalize Fix.dv ((yv - bx) * 16384) p.temp = zv at *
                have hgn : gatL p.topk sc k (mayB l b) (j + 1) = A ++ [((t : Int), yv)] := by rw [HMORE.out, HTE.out, HYE.out]
                have hwn : weL p.temp (A ++ [((t : Int), yv)]) = weL p.temp A ++ [((t : Int), Fix.ex zv)] := by rw [weL_app, HWT.out]
                have hmp := more_prep ho (t : Int) (Fix.ex zv)
                have HX : Hid (∀ (w0 : World) (ty : TypeId) (i : Nat), i < 1 * 2 → (w0.alloc (.cells #[.int .i64 (t : Int), .int .i64 (Fix.ex zv)] ty)).cell? ⟨w0.heap.size, i, none⟩ = some (ldP (weL p.temp A ++ [((t : Int), Fix.ex zv)]) (A.length * 2 + i))) := hmp.1
                have HONE : Hid (∀ i, i < 1 * 2 → (ldP (weL p.temp A ++ [((t : Int), Fix.ex zv)]) (A.length * 2 + i)).oneCell' = true) := hmp.2.1
                have HO3 : Hid (Own wr w3.heap.size 36 2 (.slice v2 A.length c2) A.length (ldP (weL p.temp A ++ [((t : Int), Fix.ex zv)]))) := hmp.2.2
                have HGN := hidd (And.intro hgn hwn)
                have HHD : Hid (((A ++ [((t : Int), yv)]).getD 0 (0, 0)).2 = bx) := by
                  show _ = _
                  rw [HBE.out hA0]; cases A with
                  | nil => exact absurd rfl hA0
                  | cons a r => rfl
                clear hgn hwn hmp ho hrd
                go_wp2
                go_quiet (exact Calls.quiet_of_same (HDV.out _))
                go_wp2_with fail
                refine (exp_ref _ _).mono ?_
                rintro e w8 ⟨rfl, h8⟩
                rw [h8]
                clear h8
                go_wp2_with (at_builtin; refine wpList_app _ rfl _ _ 29 rfl w3.heap.size 36 (.agg #[.int .i64 0, .int .i64 0]) 2 16 Tryd.underlying29 infoCh rfl (by decide) _ A.length (ldP (weL p.temp A ++ [((t : Int), Fix.ex zv)])) rfl ((HO3.out.kept (fresh_drewN wr _)).kept (fresh_alloc _ _)) _ 1 1 rfl (HX.out _ _) HONE.out (by decide) (by unfold maxLen; omega) (by omega) (by simp; omega) ?_)
                intro v9 w9 ho9 ha9
                have hw9 := ha9.below ((below_drewN hw _).alloc (by simpa using hs1) _) ((HO3.out.kept (fresh_drewN wr _)).kept (fresh_alloc _ _)) (Nat.le_refl _) (by simp; omega)
                go_wp2
                go_roundw
                case rel =>
                  refine ⟨j + 1, by omega, by go_num, ⟨_, rfl, fun _ => ?_⟩, fun q => absurd q ht0, ?_, hw9⟩
                  · rw [HGN.out.1, HHD.out]
                  · rw [HGN.out.1, HGN.out.2, show (A ++ [((t : Int), yv)]).length = A.length + 1 by simp]
                    exact ho9
                case measure => simp [intOf]; omega
        · obtain rfl : j = k := by omega
          have hall := gatL_all p.topk sc j (mayB l b)
          have HE : Hid ((weL p.temp (gatL p.topk sc j (mayB l b) j)).take (cutN (goalOf p.topp (weL p.temp (gatL p.topk sc j (mayB l b) j))) (weL p.temp (gatL p.topk sc j (mayB l b) j))) = CL9) := by
            show _ = _
            rw [HCH.out]
            unfold chL
            by_cases ht0 : p.temp = 0
            · rw [if_pos ht0]
              have h9 := HT0.out ht0
              rw [h9]
              rw [hall] at h9
              have : canL sc j (mayB l b) = [] := by
                unfold topL at h9
                split at h9
                · exact h9
                · cases hX : canL sc j (mayB l b) with
                  | nil => rfl
                  | cons a r =>
                    rw [hX] at h9
                    have : ((a :: r).take p.topk.toNat).length = 0 := by rw [h9]; rfl
                    rw [List.length_take] at this
                    simp at this
                    omega
              rw [this]
              simp [weL]
            · rw [if_neg ht0, hall]
          have hla : (weL p.temp (gatL p.topk sc j (mayB l b) j)).length = (gatL p.topk sc j (mayB l b) j).length := weL_len _ _
          have hpl : PL wr w3.heap.size v2 c2 (weL p.temp (gatL p.topk sc j (mayB l b) j)) := by unfold PL; rw [hla]; exact ho
          have hth := HTH.out wr w3.heap.size c2 v2 _ hpl (by omega) (weL_bd _ _)
          rw [hla, HE.out] at hth
          have HTT := hidd hth
          clear hth hpl ho hrd hall hpp
          go_wp2_with fail
          refine HTT.out.mono ?_
          rintro e w8 ⟨v9, c9, rfl, hp9, f9⟩
          have F8 := hidd (fresh_trans (fresh_trans F3.out hw) f9)
          have HP9 := hidd (hp9.weaken (show w.heap.size ≤ wr.heap.size by have := (fresh_trans F3.out hw).size; omega))
          clear hp9 f9
          go_wp2
          go_ret2
          exact ⟨v9, c9, rfl, HP9.out, F8.out⟩
end Go.Proofs.YtjjfbpjejhjdiabDoor
