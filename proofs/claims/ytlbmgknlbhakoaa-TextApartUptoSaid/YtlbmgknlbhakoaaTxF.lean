import Derived.Test.YtlbmgknlbhakoaaTxP
namespace Go.Proofs.Ytlbmgknlbhakoaa
open Go.RowKit Go.Shelf
attribute [local go_sem] Oper.semAt_some
/-! New. -/
def onlyN (Q : Exit → Act → World → Prop) : Exit → Act → World → Prop
  | .normal, a, w => Q .normal a w
  | _, _, _ => False
theorem wpIn_onlyN {F : Fence} {n : Nat} {P : Program} {c : Code} {Q : Exit → Act → World → Prop} {a : Act} {w : World} (h : c.wpIn F n P (onlyN Q) a w) : c.wpIn F n P Q a w :=
  wpIn_mono h (fun e _ _ hq => by
    cases e with
    | normal => exact hq
    | _ => exact hq.elim)
theorem row4_new (w : World) (t : TypeId) (a b c e : Value) : (w.alloc (.cells #[a, b, c, e] t)).rowIs w.heap.size t 4 (st4 a b c e) :=
  World.rowIs_alloc w #[a, b, c, e] t (st4 a b c e) (fun i hi => by
    have hi : i < 4 := hi
    obtain rfl | rfl | rfl | rfl : i = 0 ∨ i = 1 ∨ i = 2 ∨ i = 3 := by omega
    all_goals rfl)
theorem row1n (w : World) (t : TypeId) (x : Value) : (w.alloc (.cells #[x] t)).rowIs w.heap.size t 1 (fun _ => x) :=
  World.rowIs_alloc w #[x] t (fun _ => x) (fun i hi => by
    have hi : i < 1 := hi
    obtain rfl : i = 0 := by omega
    rfl)
theorem nws_start {w w2 : World} {vb vp : Value} {f : Nat → List Int} (hf : Below w.heap.size w w2) (hv : w2.rowIs w.heap.size 25 2 (two vb vp)) :
    NwS w w2.heap.size (w2.heap.size + 1) vb vp f 0 (.slice none 0 0) (fun _ => undef) ((w2.alloc (.cells #[.slice none 0 0, .slice none 0 0, .slice none 0 0, .bool false] 60)).alloc (.cells #[.pointer (some ⟨w2.heap.size, 0, none⟩)] 30)) := by
  have hvl := hv.lt
  have a1 := fresh_alloc w2 (.cells #[.slice none 0 0, .slice none 0 0, .slice none 0 0, .bool false] 60)
  have a2 := fresh_alloc (w2.alloc (.cells #[.slice none 0 0, .slice none 0 0, .slice none 0 0, .bool false] 60)) (.cells #[.pointer (some ⟨w2.heap.size, 0, none⟩)] 30)
  have r1 := (row4_new w2 60 (.slice none 0 0) (.slice none 0 0) (.slice none 0 0) (.bool false)).alloc (.cells #[.pointer (some ⟨w2.heap.size, 0, none⟩)] 30)
  have r2 := row1n (w2.alloc (.cells #[.slice none 0 0, .slice none 0 0, .slice none 0 0, .bool false] 60)) 30 (.pointer (some ⟨w2.heap.size, 0, none⟩))
  simp only [World.size_alloc] at r2
  exact ⟨r1, r2, (hv.alloc _).alloc _, ⟨own_nil _ _ _ _ _, fun i hi => absurd hi (by omega)⟩, fresh_trans (fresh_trans hf a1) a2, ⟨hvl, by omega⟩⟩
set_option maxRecDepth 100000 in
set_option maxHeartbeats 16000000 in
theorem new_ok {w : World} {d : VD} {bo po so : Option Addr} {cb cp cs : Nat} {sb : List ByteArray} (hb : RdA w bo 1 d.nb cb (fun i => .int .u8 (d.B i))) (hp : RdA w po 2 d.np cp (tcs d.P d.Q)) (hR : d.Right)
    (hs : RdA w so 1 sb.length cs (fun i => .string (sb.getD i ByteArray.empty))) (hM : MaySt sb) :
    Calls Try.prog 11 #[.agg #[.slice bo d.nb cb, .slice po d.np cp], .slice so sb.length cs] w fun e w' => ∃ S K, e = .returned (.tuple #[.pointer (some ⟨S, 0, none⟩), .int .i64 0]) ∧ StA w' S K d (sb.map bys) (.slice none 0 0) [] false ∧ Below w.heap.size w w' ∧ w.heap.size ≤ S ∧ (∀ b, K b → w.heap.size ≤ b) := by
  have HR := hidd hR
  have HS := hidd hs
  have HM := hidd hM
  have HB := hidd hb
  have HP := hidd hp
  have hm4 := hM.1
  obtain ⟨m, em⟩ : ∃ m, m = sb.length := ⟨_, rfl⟩
  have EM := hidd em
  rw [← em] at HS hm4 ⊢
  have hcs := hs.le
  have hct := hs.top
  rw [← em] at hcs
  have hf0 := fresh_alloc w (.cells #[.slice bo d.nb cb, .slice po d.np cp] 25)
  have q0 := row2_new w 25 (.slice bo d.nb cb) (.slice po d.np cp)
  have HMY : Hid (∀ w', Below w.heap.size w w' → Calls Try.prog 24 #[.slice so m cs] w' fun e w'' => e = .returned (.bool true) ∧ w'' = w') := fun w' f => by
    have := mayst_any (hs.fresh f) (fun i hi => by have := (hM.2 i hi).2; omega) true ⟨fun _ => hM, fun _ => rfl⟩
    rwa [← em] at this
  clear hR hs hM hb hp em
  refine (callsIn_wide (n := 3)).1 ?_
  refine callsIn_of_wp_marks Try.func11 rfl trivial ?_ rfl
  simp only [Try.ntmps11, List.size_toArray, List.length_cons, List.length_nil, Nat.reduceAdd, Nat.reduceSub, Array.replicate_succ, Array.replicate_zero, List.push_toArray, List.append_toArray, List.nil_append, List.cons_append]
  gi_wp2_with fail
  refine ⟨trivial, ?_⟩
  gi_at_call 23
  refine (callsIn_wide.2 (pcheck_any (HB.out.fresh hf0) (HP.out.fresh hf0) 0 (.inl ⟨HR.out, rfl⟩))).mono ?_
  rintro e w2 ⟨rfl, hf2⟩
  have hF2 := fresh_trans hf0 hf2
  have q2 := q0.of_block (hf2.block _ q0.lt)
  clear q0 hf0 hf2
  gi_wp2_with fail
  refine ⟨trivial, ?_⟩
  gi_at_call 24
  refine (callsIn_wide.2 (HMY.out w2 hF2)).mono ?_
  rintro e w3 ⟨rfl, hw3⟩
  rw [hw3]
  clear hw3
  obtain ⟨f, ef⟩ : ∃ f : Nat → List Int, f = fun i => (sb.map bys).getD i [] := ⟨_, rfl⟩
  have EF := hidd ef
  have HN0 := hidd (nws_start (f := f) hF2 q2)
  clear ef
  obtain ⟨S, eS⟩ : ∃ S, S = w2.heap.size := ⟨_, rfl⟩
  gi_wp2
  gi_loopw [24] (fun i wr => ∃ (k : Nat) (sv : Value) (A : Nat → Value), k ≤ m ∧ i = .int .i64 k ∧ Hid (NwS w w2.heap.size (w2.heap.size + 1) (.slice bo d.nb cb) (.slice po d.np cp) f k sv A wr)) (fun i _ => m - (intOf i).toNat)
  case atStart => exact ⟨0, _, _, Nat.zero_le _, rfl, HN0⟩
  case round =>
    obtain ⟨n, sv, A, hn, rfl, HN⟩ := hrel
    by_cases hlt : n < m
    · obtain ⟨b1, o1, rfl, hc1⟩ := (HS.out.fresh HN.out.low).one (by omega)
      have c1 := hc1 n hlt
      have hl16 := HM.out.2 n (by have := EM.out; omega)
      have hfn : Hid (f n = bys (sb.getD n ByteArray.empty)) := by
        show _ = _
        rw [EF.out]
        have : n < sb.length := by have := EM.out; omega
        simp [List.getD_eq_getElem?_getD, this]
      obtain ⟨s, es⟩ : ∃ s, s = sb.getD n ByteArray.empty := ⟨_, rfl⟩
      rw [← es] at c1 hl16 hfn
      clear hc1 es
      have cV0 : wr.cell? ⟨w2.heap.size + 1, 0, none⟩ = some (.pointer (some ⟨w2.heap.size, 0, none⟩)) := HN.out.var.cell (i := 0) (by decide)
      obtain ⟨asv, ksv, esv, _⟩ := HN.out.gr.own.rd
      subst esv
      have cS0 : wr.cell? ⟨w2.heap.size, 1, none⟩ = some (.slice asv n ksv) := HN.out.row.cell (i := 1) (by decide)
      obtain ⟨cc, W1, hcv, fW1, hz1, hc16, hcm, hcb⟩ := conv_bytes wr.drew s (by omega)
      have hH0 : wr.drew.heap.size = wr.heap.size := rfl
      rw [hH0] at hcv hz1 hcb
      have fW : Below wr.heap.size wr W1 := fresh_trans (Below.refl _ _).drew fW1
      have cV1 := fresh_cell fW cV0
      have cS1 := fresh_cell fW cS0
      have fW2 : Hid (Below wr.heap.size wr (W1.alloc (.cells #[.slice (some ⟨wr.heap.size, 0, none⟩) s.size cc] 22))) := fresh_trans fW (fresh_alloc _ _)
      have cV2 := fresh_cell fW2.out cV0
      have cS2 := fresh_cell fW2.out cS0
      have cV0' : wr.drew.cell? ⟨w2.heap.size + 1, 0, none⟩ = some (.pointer (some ⟨w2.heap.size, 0, none⟩)) := cV0
      have cS0' : wr.drew.cell? ⟨w2.heap.size, 1, none⟩ = some (.slice asv n ksv) := cS0
      have HO : Hid (Own (W1.alloc (.cells #[.slice (some ⟨wr.heap.size, 0, none⟩) s.size cc] 22)) w.heap.size 22 1 (.slice asv n ksv) n (upd A n (.slice (some ⟨wr.heap.size, 0, none⟩) s.size cc))) := (HN.out.gr.own.kept fW2.out).congr (fun j hj => by rw [upd_lt _ _ (by omega)])
      have HX : Hid ((W1.alloc (.cells #[.slice (some ⟨wr.heap.size, 0, none⟩) s.size cc] 22)).cell? ⟨W1.heap.size, 0, none⟩ = some (upd A n (.slice (some ⟨wr.heap.size, 0, none⟩) s.size cc) n)) := by
        show _ = _
        rw [upd_at]; exact new_cell _ _ _
      have HON : Hid ((upd A n (.slice (some ⟨wr.heap.size, 0, none⟩) s.size cc) n).oneCell' = true) := by show _ = _; rw [upd_at]; rfl
      have HST : Hid (∀ g' cap' w9, Own w9 w.heap.size 22 1 (.slice (some ⟨g', 0, none⟩) (n + 1) cap') (n + 1) (upd A n (.slice (some ⟨wr.heap.size, 0, none⟩) s.size cc)) → App (W1.alloc (.cells #[.slice (some ⟨wr.heap.size, 0, none⟩) s.size cc] 22)) w9 (.slice asv n ksv) (.slice (some ⟨g', 0, none⟩) (n + 1) cap') → w9.cell? ⟨w2.heap.size + 1, 0, none⟩ = some (.pointer (some ⟨w2.heap.size, 0, none⟩)) ∧ w9.cell? ⟨w2.heap.size, 1, none⟩ = some (.slice asv n ksv) ∧ w9.frozen? ⟨w2.heap.size, 1, none⟩ = false ∧ ∃ sv' A', Hid (NwS w w2.heap.size (w2.heap.size + 1) (.slice bo d.nb cb) (.slice po d.np cp) f (n + 1) sv' A' (w9.setCell ⟨w2.heap.size, 1, none⟩ (.slice (some ⟨g', 0, none⟩) (n + 1) cap')))) := fun g' cap' w9 ho9 ha9 => by
        have hl : (f n).length = s.size := by rw [hfn.out, bys_len]
        have hq : s.size ≤ 1000 := by omega
        obtain ⟨x1, x2, x3, x4⟩ := NwS.step (c := cc) HN.out fW2.out (by rw [hl]; exact hc16) hcm (fun j hj => by
          rw [hl] at hj
          rw [hfn.out]
          exact fresh_cell (fresh_alloc _ _) (hcb j hj)) ha9 (by rw [hl]; exact ho9)
        exact ⟨x1, x2, x3, _, _, x4⟩
      have hH1w : w.heap.size ≤ (W1.alloc (.cells #[.slice (some ⟨wr.heap.size, 0, none⟩) s.size cc] 22)).heap.size := Nat.le_trans HN.out.low.size fW2.out.size
      clear hcb fW fW1 hfn hz1 hH0
      gi_upto_region 10 with fail
      refine wpIn_onlyN ?_
      refine wpIn_region_any (by kernel_rfl) ?_
      refine wpAnyIn_take (i := 5) (v := ?v1) rfl rfl (by kernel_rfl) (by kernel_rfl) (by kernel_rfl) (fun _ _ _ h => h) ⟨Or.inl ⟨by rfl, ?hy1⟩, fun _ => rfl⟩ ?rest1
      case hy1 => (intro wz; go_simp; try with_reducible rfl)
      refine wpAnyIn_ready (rs := [0, 1, 6]) (by kernel_rfl) (by simp) ?_
      refine (AllReadyIn.cons rfl (fun K hK => ?_) (AllReadyIn.cons rfl (fun K hK => ?_) (AllReadyIn.cons rfl (fun K hK => ?_) AllReadyIn.nil)))
      · go_simp
        refine hK _ _ ?_
        clear hK K
        refine wpAnyIn_ready (rs := [1, 6]) (by kernel_rfl) (by simp) ?_
        refine (AllReadyIn.cons rfl (fun K hK => ?_) (AllReadyIn.cons rfl (fun K hK => ?_) AllReadyIn.nil))
        · go_simp
          refine hK _ _ ?_
          clear hK K
          refine wpAnyIn_take (i := 2) (v := ?v2) rfl rfl (by kernel_rfl) (by kernel_rfl) (by kernel_rfl) (fun _ _ _ h => h) ⟨Or.inl ⟨by rfl, ?hy2⟩, fun _ => rfl⟩ ?rest2
          case hy2 => (intro wz; go_simp; try with_reducible rfl)
          refine wpAnyIn_take (i := 3) (v := ?v3) rfl rfl (by kernel_rfl) (by kernel_rfl) (by kernel_rfl) (fun _ _ _ h => h) ⟨Or.inl ⟨by rfl, ?hy3⟩, fun _ => rfl⟩ ?rest3
          case hy3 => (intro wz; go_simp; try with_reducible rfl)
          refine wpAnyIn_ready (rs := [4, 6]) (by kernel_rfl) (by simp) ?_
          refine (AllReadyIn.cons rfl (fun K hK => ?_) (AllReadyIn.cons rfl (fun K hK => ?_) AllReadyIn.nil))
          · go_simp
            refine hK _ _ ?_
            clear hK K
            refine wpAnyIn_ready (rs := [6]) (by kernel_rfl) (by simp) ?_
            refine (AllReadyIn.cons rfl (fun K hK => ?_) AllReadyIn.nil)
            go_simp
            refine hK _ _ ?_
            clear hK K
            refine wpAnyIn_ready (rs := [7]) (by kernel_rfl) (by simp) ?_
            refine (AllReadyIn.cons rfl (fun K hK => ?_) AllReadyIn.nil)
            go_simp
            refine hK _ _ ?_
            clear hK K
            refine wpAnyIn_ready (rs := [8]) (by kernel_rfl) (by simp) ?_
            refine (AllReadyIn.cons rfl (fun K hK => ?_) AllReadyIn.nil)
            refine stepIn_app1 _ rfl _ _ 58 rfl w.heap.size 22 (.slice none 0 0) 24 Try.underlying58 infoSB rfl _ n (upd A n (.slice (some ⟨wr.heap.size, 0, none⟩) s.size cc)) rfl HO.out W1.heap.size 1 rfl HX.out HON.out (by omega) (by omega) (by omega) ?_
            intro g' cap' w9 ho9 ha9
            obtain ⟨cV3, cS3, fS3, HN9⟩ := HST.out g' cap' w9 ho9 ha9
            clear ho9 ha9
            refine hK _ _ ?_
            clear hK K
            refine wpAnyIn_take (i := 9) (v := ?v4) rfl rfl (by kernel_rfl) (by kernel_rfl) (by kernel_rfl) (fun _ _ _ h => h) ⟨Or.inl ⟨by rfl, ?hy4⟩, fun _ => rfl⟩ ?rest4
            case hy4 => (intro wz; go_simp; try with_reducible rfl)
            refine wpAnyIn_take (i := 10) (v := ?v5) rfl rfl (by kernel_rfl) (by kernel_rfl) (by kernel_rfl) (fun _ _ _ h => h) ⟨Or.inl ⟨by rfl, ?hy5⟩, fun _ => rfl⟩ ?rest5
            case hy5 => (intro wz; go_simp; try with_reducible rfl)
            refine wpAnyIn_ready (rs := [11]) (by kernel_rfl) (by simp) ?_
            refine (AllReadyIn.cons rfl (fun K hK => ?_) AllReadyIn.nil)
            go_simp
            refine hK _ _ ?_
            clear hK K
            refine wpAnyIn_done (by kernel_rfl) ?_ _
            dsimp only [onlyN]
            obtain ⟨sv', A', HN'⟩ := HN9
            clear cV3 cS3 fS3
            gi_wp2
            go_roundw
            case rel => exact ⟨n + 1, sv', A', by omega, by go_num, HN'⟩
            case measure => simp [intOf]; omega
          · go_simp
            refine hK _ _ ?_
            clear hK K
            refine wpAnyIn_ready (rs := [4, 7]) (by kernel_rfl) (by simp) ?_
            refine (AllReadyIn.cons rfl (fun K hK => ?_) (AllReadyIn.cons rfl (fun K hK => ?_) AllReadyIn.nil))
            · go_simp
              refine hK _ _ ?_
              clear hK K
              refine wpAnyIn_ready (rs := [7]) (by kernel_rfl) (by simp) ?_
              refine (AllReadyIn.cons rfl (fun K hK => ?_) AllReadyIn.nil)
              go_simp
              refine hK _ _ ?_
              clear hK K
              refine wpAnyIn_ready (rs := [8]) (by kernel_rfl) (by simp) ?_
              refine (AllReadyIn.cons rfl (fun K hK => ?_) AllReadyIn.nil)
              refine stepIn_app1 _ rfl _ _ 58 rfl w.heap.size 22 (.slice none 0 0) 24 Try.underlying58 infoSB rfl _ n (upd A n (.slice (some ⟨wr.heap.size, 0, none⟩) s.size cc)) rfl HO.out W1.heap.size 1 rfl HX.out HON.out (by omega) (by omega) (by omega) ?_
              intro g' cap' w9 ho9 ha9
              obtain ⟨cV3, cS3, fS3, HN9⟩ := HST.out g' cap' w9 ho9 ha9
              clear ho9 ha9
              refine hK _ _ ?_
              clear hK K
              refine wpAnyIn_take (i := 9) (v := ?v6) rfl rfl (by kernel_rfl) (by kernel_rfl) (by kernel_rfl) (fun _ _ _ h => h) ⟨Or.inl ⟨by rfl, ?hy6⟩, fun _ => rfl⟩ ?rest6
              case hy6 => (intro wz; go_simp; try with_reducible rfl)
              refine wpAnyIn_take (i := 10) (v := ?v7) rfl rfl (by kernel_rfl) (by kernel_rfl) (by kernel_rfl) (fun _ _ _ h => h) ⟨Or.inl ⟨by rfl, ?hy7⟩, fun _ => rfl⟩ ?rest7
              case hy7 => (intro wz; go_simp; try with_reducible rfl)
              refine wpAnyIn_ready (rs := [11]) (by kernel_rfl) (by simp) ?_
              refine (AllReadyIn.cons rfl (fun K hK => ?_) AllReadyIn.nil)
              go_simp
              refine hK _ _ ?_
              clear hK K
              refine wpAnyIn_done (by kernel_rfl) ?_ _
              dsimp only [onlyN]
              obtain ⟨sv', A', HN'⟩ := HN9
              clear cV3 cS3 fS3
              gi_wp2
              go_roundw
              case rel => exact ⟨n + 1, sv', A', by omega, by go_num, HN'⟩
              case measure => simp [intOf]; omega
            · go_simp
              refine hK _ _ ?_
              clear hK K
              refine wpAnyIn_ready (rs := [4]) (by kernel_rfl) (by simp) ?_
              refine (AllReadyIn.cons rfl (fun K hK => ?_) AllReadyIn.nil)
              go_simp
              refine hK _ _ ?_
              clear hK K
              refine wpAnyIn_ready (rs := [8]) (by kernel_rfl) (by simp) ?_
              refine (AllReadyIn.cons rfl (fun K hK => ?_) AllReadyIn.nil)
              refine stepIn_app1 _ rfl _ _ 58 rfl w.heap.size 22 (.slice none 0 0) 24 Try.underlying58 infoSB rfl _ n (upd A n (.slice (some ⟨wr.heap.size, 0, none⟩) s.size cc)) rfl HO.out W1.heap.size 1 rfl HX.out HON.out (by omega) (by omega) (by omega) ?_
              intro g' cap' w9 ho9 ha9
              obtain ⟨cV3, cS3, fS3, HN9⟩ := HST.out g' cap' w9 ho9 ha9
              clear ho9 ha9
              refine hK _ _ ?_
              clear hK K
              refine wpAnyIn_take (i := 9) (v := ?v8) rfl rfl (by kernel_rfl) (by kernel_rfl) (by kernel_rfl) (fun _ _ _ h => h) ⟨Or.inl ⟨by rfl, ?hy8⟩, fun _ => rfl⟩ ?rest8
              case hy8 => (intro wz; go_simp; try with_reducible rfl)
              refine wpAnyIn_take (i := 10) (v := ?v9) rfl rfl (by kernel_rfl) (by kernel_rfl) (by kernel_rfl) (fun _ _ _ h => h) ⟨Or.inl ⟨by rfl, ?hy9⟩, fun _ => rfl⟩ ?rest9
              case hy9 => (intro wz; go_simp; try with_reducible rfl)
              refine wpAnyIn_ready (rs := [11]) (by kernel_rfl) (by simp) ?_
              refine (AllReadyIn.cons rfl (fun K hK => ?_) AllReadyIn.nil)
              go_simp
              refine hK _ _ ?_
              clear hK K
              refine wpAnyIn_done (by kernel_rfl) ?_ _
              dsimp only [onlyN]
              obtain ⟨sv', A', HN'⟩ := HN9
              clear cV3 cS3 fS3
              gi_wp2
              go_roundw
              case rel => exact ⟨n + 1, sv', A', by omega, by go_num, HN'⟩
              case measure => simp [intOf]; omega
        · go_simp
          refine hK _ _ ?_
          clear hK K
          refine wpAnyIn_ready (rs := [1, 7]) (by kernel_rfl) (by simp) ?_
          refine (AllReadyIn.cons rfl (fun K hK => ?_) (AllReadyIn.cons rfl (fun K hK => ?_) AllReadyIn.nil))
          · go_simp
            refine hK _ _ ?_
            clear hK K
            refine wpAnyIn_take (i := 2) (v := ?v10) rfl rfl (by kernel_rfl) (by kernel_rfl) (by kernel_rfl) (fun _ _ _ h => h) ⟨Or.inl ⟨by rfl, ?hy10⟩, fun _ => rfl⟩ ?rest10
            case hy10 => (intro wz; go_simp; try with_reducible rfl)
            refine wpAnyIn_take (i := 3) (v := ?v11) rfl rfl (by kernel_rfl) (by kernel_rfl) (by kernel_rfl) (fun _ _ _ h => h) ⟨Or.inl ⟨by rfl, ?hy11⟩, fun _ => rfl⟩ ?rest11
            case hy11 => (intro wz; go_simp; try with_reducible rfl)
            refine wpAnyIn_ready (rs := [4, 7]) (by kernel_rfl) (by simp) ?_
            refine (AllReadyIn.cons rfl (fun K hK => ?_) (AllReadyIn.cons rfl (fun K hK => ?_) AllReadyIn.nil))
            · go_simp
              refine hK _ _ ?_
              clear hK K
              refine wpAnyIn_ready (rs := [7]) (by kernel_rfl) (by simp) ?_
              refine (AllReadyIn.cons rfl (fun K hK => ?_) AllReadyIn.nil)
              go_simp
              refine hK _ _ ?_
              clear hK K
              refine wpAnyIn_ready (rs := [8]) (by kernel_rfl) (by simp) ?_
              refine (AllReadyIn.cons rfl (fun K hK => ?_) AllReadyIn.nil)
              refine stepIn_app1 _ rfl _ _ 58 rfl w.heap.size 22 (.slice none 0 0) 24 Try.underlying58 infoSB rfl _ n (upd A n (.slice (some ⟨wr.heap.size, 0, none⟩) s.size cc)) rfl HO.out W1.heap.size 1 rfl HX.out HON.out (by omega) (by omega) (by omega) ?_
              intro g' cap' w9 ho9 ha9
              obtain ⟨cV3, cS3, fS3, HN9⟩ := HST.out g' cap' w9 ho9 ha9
              clear ho9 ha9
              refine hK _ _ ?_
              clear hK K
              refine wpAnyIn_take (i := 9) (v := ?v12) rfl rfl (by kernel_rfl) (by kernel_rfl) (by kernel_rfl) (fun _ _ _ h => h) ⟨Or.inl ⟨by rfl, ?hy12⟩, fun _ => rfl⟩ ?rest12
              case hy12 => (intro wz; go_simp; try with_reducible rfl)
              refine wpAnyIn_take (i := 10) (v := ?v13) rfl rfl (by kernel_rfl) (by kernel_rfl) (by kernel_rfl) (fun _ _ _ h => h) ⟨Or.inl ⟨by rfl, ?hy13⟩, fun _ => rfl⟩ ?rest13
              case hy13 => (intro wz; go_simp; try with_reducible rfl)
              refine wpAnyIn_ready (rs := [11]) (by kernel_rfl) (by simp) ?_
              refine (AllReadyIn.cons rfl (fun K hK => ?_) AllReadyIn.nil)
              go_simp
              refine hK _ _ ?_
              clear hK K
              refine wpAnyIn_done (by kernel_rfl) ?_ _
              dsimp only [onlyN]
              obtain ⟨sv', A', HN'⟩ := HN9
              clear cV3 cS3 fS3
              gi_wp2
              go_roundw
              case rel => exact ⟨n + 1, sv', A', by omega, by go_num, HN'⟩
              case measure => simp [intOf]; omega
            · go_simp
              refine hK _ _ ?_
              clear hK K
              refine wpAnyIn_ready (rs := [4]) (by kernel_rfl) (by simp) ?_
              refine (AllReadyIn.cons rfl (fun K hK => ?_) AllReadyIn.nil)
              go_simp
              refine hK _ _ ?_
              clear hK K
              refine wpAnyIn_ready (rs := [8]) (by kernel_rfl) (by simp) ?_
              refine (AllReadyIn.cons rfl (fun K hK => ?_) AllReadyIn.nil)
              refine stepIn_app1 _ rfl _ _ 58 rfl w.heap.size 22 (.slice none 0 0) 24 Try.underlying58 infoSB rfl _ n (upd A n (.slice (some ⟨wr.heap.size, 0, none⟩) s.size cc)) rfl HO.out W1.heap.size 1 rfl HX.out HON.out (by omega) (by omega) (by omega) ?_
              intro g' cap' w9 ho9 ha9
              obtain ⟨cV3, cS3, fS3, HN9⟩ := HST.out g' cap' w9 ho9 ha9
              clear ho9 ha9
              refine hK _ _ ?_
              clear hK K
              refine wpAnyIn_take (i := 9) (v := ?v14) rfl rfl (by kernel_rfl) (by kernel_rfl) (by kernel_rfl) (fun _ _ _ h => h) ⟨Or.inl ⟨by rfl, ?hy14⟩, fun _ => rfl⟩ ?rest14
              case hy14 => (intro wz; go_simp; try with_reducible rfl)
              refine wpAnyIn_take (i := 10) (v := ?v15) rfl rfl (by kernel_rfl) (by kernel_rfl) (by kernel_rfl) (fun _ _ _ h => h) ⟨Or.inl ⟨by rfl, ?hy15⟩, fun _ => rfl⟩ ?rest15
              case hy15 => (intro wz; go_simp; try with_reducible rfl)
              refine wpAnyIn_ready (rs := [11]) (by kernel_rfl) (by simp) ?_
              refine (AllReadyIn.cons rfl (fun K hK => ?_) AllReadyIn.nil)
              go_simp
              refine hK _ _ ?_
              clear hK K
              refine wpAnyIn_done (by kernel_rfl) ?_ _
              dsimp only [onlyN]
              obtain ⟨sv', A', HN'⟩ := HN9
              clear cV3 cS3 fS3
              gi_wp2
              go_roundw
              case rel => exact ⟨n + 1, sv', A', by omega, by go_num, HN'⟩
              case measure => simp [intOf]; omega
          · go_simp
            refine hK _ _ ?_
            clear hK K
            refine wpAnyIn_ready (rs := [1]) (by kernel_rfl) (by simp) ?_
            refine (AllReadyIn.cons rfl (fun K hK => ?_) AllReadyIn.nil)
            go_simp
            refine hK _ _ ?_
            clear hK K
            refine wpAnyIn_take (i := 2) (v := ?v16) rfl rfl (by kernel_rfl) (by kernel_rfl) (by kernel_rfl) (fun _ _ _ h => h) ⟨Or.inl ⟨by rfl, ?hy16⟩, fun _ => rfl⟩ ?rest16
            case hy16 => (intro wz; go_simp; try with_reducible rfl)
            refine wpAnyIn_take (i := 3) (v := ?v17) rfl rfl (by kernel_rfl) (by kernel_rfl) (by kernel_rfl) (fun _ _ _ h => h) ⟨Or.inl ⟨by rfl, ?hy17⟩, fun _ => rfl⟩ ?rest17
            case hy17 => (intro wz; go_simp; try with_reducible rfl)
            refine wpAnyIn_ready (rs := [4]) (by kernel_rfl) (by simp) ?_
            refine (AllReadyIn.cons rfl (fun K hK => ?_) AllReadyIn.nil)
            go_simp
            refine hK _ _ ?_
            clear hK K
            refine wpAnyIn_ready (rs := [8]) (by kernel_rfl) (by simp) ?_
            refine (AllReadyIn.cons rfl (fun K hK => ?_) AllReadyIn.nil)
            refine stepIn_app1 _ rfl _ _ 58 rfl w.heap.size 22 (.slice none 0 0) 24 Try.underlying58 infoSB rfl _ n (upd A n (.slice (some ⟨wr.heap.size, 0, none⟩) s.size cc)) rfl HO.out W1.heap.size 1 rfl HX.out HON.out (by omega) (by omega) (by omega) ?_
            intro g' cap' w9 ho9 ha9
            obtain ⟨cV3, cS3, fS3, HN9⟩ := HST.out g' cap' w9 ho9 ha9
            clear ho9 ha9
            refine hK _ _ ?_
            clear hK K
            refine wpAnyIn_take (i := 9) (v := ?v18) rfl rfl (by kernel_rfl) (by kernel_rfl) (by kernel_rfl) (fun _ _ _ h => h) ⟨Or.inl ⟨by rfl, ?hy18⟩, fun _ => rfl⟩ ?rest18
            case hy18 => (intro wz; go_simp; try with_reducible rfl)
            refine wpAnyIn_take (i := 10) (v := ?v19) rfl rfl (by kernel_rfl) (by kernel_rfl) (by kernel_rfl) (fun _ _ _ h => h) ⟨Or.inl ⟨by rfl, ?hy19⟩, fun _ => rfl⟩ ?rest19
            case hy19 => (intro wz; go_simp; try with_reducible rfl)
            refine wpAnyIn_ready (rs := [11]) (by kernel_rfl) (by simp) ?_
            refine (AllReadyIn.cons rfl (fun K hK => ?_) AllReadyIn.nil)
            go_simp
            refine hK _ _ ?_
            clear hK K
            refine wpAnyIn_done (by kernel_rfl) ?_ _
            dsimp only [onlyN]
            obtain ⟨sv', A', HN'⟩ := HN9
            clear cV3 cS3 fS3
            gi_wp2
            go_roundw
            case rel => exact ⟨n + 1, sv', A', by omega, by go_num, HN'⟩
            case measure => simp [intOf]; omega
      · go_simp
        refine hK _ _ ?_
        clear hK K
        refine wpAnyIn_take (i := 2) (v := ?v20) rfl rfl (by kernel_rfl) (by kernel_rfl) (by kernel_rfl) (fun _ _ _ h => h) ⟨Or.inl ⟨by rfl, ?hy20⟩, fun _ => rfl⟩ ?rest20
        case hy20 => (intro wz; go_simp; try with_reducible rfl)
        refine wpAnyIn_take (i := 3) (v := ?v21) rfl rfl (by kernel_rfl) (by kernel_rfl) (by kernel_rfl) (fun _ _ _ h => h) ⟨Or.inl ⟨by rfl, ?hy21⟩, fun _ => rfl⟩ ?rest21
        case hy21 => (intro wz; go_simp; try with_reducible rfl)
        refine wpAnyIn_ready (rs := [0, 4, 6]) (by kernel_rfl) (by simp) ?_
        refine (AllReadyIn.cons rfl (fun K hK => ?_) (AllReadyIn.cons rfl (fun K hK => ?_) (AllReadyIn.cons rfl (fun K hK => ?_) AllReadyIn.nil)))
        · go_simp
          refine hK _ _ ?_
          clear hK K
          refine wpAnyIn_ready (rs := [4, 6]) (by kernel_rfl) (by simp) ?_
          refine (AllReadyIn.cons rfl (fun K hK => ?_) (AllReadyIn.cons rfl (fun K hK => ?_) AllReadyIn.nil))
          · go_simp
            refine hK _ _ ?_
            clear hK K
            refine wpAnyIn_ready (rs := [6]) (by kernel_rfl) (by simp) ?_
            refine (AllReadyIn.cons rfl (fun K hK => ?_) AllReadyIn.nil)
            go_simp
            refine hK _ _ ?_
            clear hK K
            refine wpAnyIn_ready (rs := [7]) (by kernel_rfl) (by simp) ?_
            refine (AllReadyIn.cons rfl (fun K hK => ?_) AllReadyIn.nil)
            go_simp
            refine hK _ _ ?_
            clear hK K
            refine wpAnyIn_ready (rs := [8]) (by kernel_rfl) (by simp) ?_
            refine (AllReadyIn.cons rfl (fun K hK => ?_) AllReadyIn.nil)
            refine stepIn_app1 _ rfl _ _ 58 rfl w.heap.size 22 (.slice none 0 0) 24 Try.underlying58 infoSB rfl _ n (upd A n (.slice (some ⟨wr.heap.size, 0, none⟩) s.size cc)) rfl HO.out W1.heap.size 1 rfl HX.out HON.out (by omega) (by omega) (by omega) ?_
            intro g' cap' w9 ho9 ha9
            obtain ⟨cV3, cS3, fS3, HN9⟩ := HST.out g' cap' w9 ho9 ha9
            clear ho9 ha9
            refine hK _ _ ?_
            clear hK K
            refine wpAnyIn_take (i := 9) (v := ?v22) rfl rfl (by kernel_rfl) (by kernel_rfl) (by kernel_rfl) (fun _ _ _ h => h) ⟨Or.inl ⟨by rfl, ?hy22⟩, fun _ => rfl⟩ ?rest22
            case hy22 => (intro wz; go_simp; try with_reducible rfl)
            refine wpAnyIn_take (i := 10) (v := ?v23) rfl rfl (by kernel_rfl) (by kernel_rfl) (by kernel_rfl) (fun _ _ _ h => h) ⟨Or.inl ⟨by rfl, ?hy23⟩, fun _ => rfl⟩ ?rest23
            case hy23 => (intro wz; go_simp; try with_reducible rfl)
            refine wpAnyIn_ready (rs := [11]) (by kernel_rfl) (by simp) ?_
            refine (AllReadyIn.cons rfl (fun K hK => ?_) AllReadyIn.nil)
            go_simp
            refine hK _ _ ?_
            clear hK K
            refine wpAnyIn_done (by kernel_rfl) ?_ _
            dsimp only [onlyN]
            obtain ⟨sv', A', HN'⟩ := HN9
            clear cV3 cS3 fS3
            gi_wp2
            go_roundw
            case rel => exact ⟨n + 1, sv', A', by omega, by go_num, HN'⟩
            case measure => simp [intOf]; omega
          · go_simp
            refine hK _ _ ?_
            clear hK K
            refine wpAnyIn_ready (rs := [4, 7]) (by kernel_rfl) (by simp) ?_
            refine (AllReadyIn.cons rfl (fun K hK => ?_) (AllReadyIn.cons rfl (fun K hK => ?_) AllReadyIn.nil))
            · go_simp
              refine hK _ _ ?_
              clear hK K
              refine wpAnyIn_ready (rs := [7]) (by kernel_rfl) (by simp) ?_
              refine (AllReadyIn.cons rfl (fun K hK => ?_) AllReadyIn.nil)
              go_simp
              refine hK _ _ ?_
              clear hK K
              refine wpAnyIn_ready (rs := [8]) (by kernel_rfl) (by simp) ?_
              refine (AllReadyIn.cons rfl (fun K hK => ?_) AllReadyIn.nil)
              refine stepIn_app1 _ rfl _ _ 58 rfl w.heap.size 22 (.slice none 0 0) 24 Try.underlying58 infoSB rfl _ n (upd A n (.slice (some ⟨wr.heap.size, 0, none⟩) s.size cc)) rfl HO.out W1.heap.size 1 rfl HX.out HON.out (by omega) (by omega) (by omega) ?_
              intro g' cap' w9 ho9 ha9
              obtain ⟨cV3, cS3, fS3, HN9⟩ := HST.out g' cap' w9 ho9 ha9
              clear ho9 ha9
              refine hK _ _ ?_
              clear hK K
              refine wpAnyIn_take (i := 9) (v := ?v24) rfl rfl (by kernel_rfl) (by kernel_rfl) (by kernel_rfl) (fun _ _ _ h => h) ⟨Or.inl ⟨by rfl, ?hy24⟩, fun _ => rfl⟩ ?rest24
              case hy24 => (intro wz; go_simp; try with_reducible rfl)
              refine wpAnyIn_take (i := 10) (v := ?v25) rfl rfl (by kernel_rfl) (by kernel_rfl) (by kernel_rfl) (fun _ _ _ h => h) ⟨Or.inl ⟨by rfl, ?hy25⟩, fun _ => rfl⟩ ?rest25
              case hy25 => (intro wz; go_simp; try with_reducible rfl)
              refine wpAnyIn_ready (rs := [11]) (by kernel_rfl) (by simp) ?_
              refine (AllReadyIn.cons rfl (fun K hK => ?_) AllReadyIn.nil)
              go_simp
              refine hK _ _ ?_
              clear hK K
              refine wpAnyIn_done (by kernel_rfl) ?_ _
              dsimp only [onlyN]
              obtain ⟨sv', A', HN'⟩ := HN9
              clear cV3 cS3 fS3
              gi_wp2
              go_roundw
              case rel => exact ⟨n + 1, sv', A', by omega, by go_num, HN'⟩
              case measure => simp [intOf]; omega
            · go_simp
              refine hK _ _ ?_
              clear hK K
              refine wpAnyIn_ready (rs := [4]) (by kernel_rfl) (by simp) ?_
              refine (AllReadyIn.cons rfl (fun K hK => ?_) AllReadyIn.nil)
              go_simp
              refine hK _ _ ?_
              clear hK K
              refine wpAnyIn_ready (rs := [8]) (by kernel_rfl) (by simp) ?_
              refine (AllReadyIn.cons rfl (fun K hK => ?_) AllReadyIn.nil)
              refine stepIn_app1 _ rfl _ _ 58 rfl w.heap.size 22 (.slice none 0 0) 24 Try.underlying58 infoSB rfl _ n (upd A n (.slice (some ⟨wr.heap.size, 0, none⟩) s.size cc)) rfl HO.out W1.heap.size 1 rfl HX.out HON.out (by omega) (by omega) (by omega) ?_
              intro g' cap' w9 ho9 ha9
              obtain ⟨cV3, cS3, fS3, HN9⟩ := HST.out g' cap' w9 ho9 ha9
              clear ho9 ha9
              refine hK _ _ ?_
              clear hK K
              refine wpAnyIn_take (i := 9) (v := ?v26) rfl rfl (by kernel_rfl) (by kernel_rfl) (by kernel_rfl) (fun _ _ _ h => h) ⟨Or.inl ⟨by rfl, ?hy26⟩, fun _ => rfl⟩ ?rest26
              case hy26 => (intro wz; go_simp; try with_reducible rfl)
              refine wpAnyIn_take (i := 10) (v := ?v27) rfl rfl (by kernel_rfl) (by kernel_rfl) (by kernel_rfl) (fun _ _ _ h => h) ⟨Or.inl ⟨by rfl, ?hy27⟩, fun _ => rfl⟩ ?rest27
              case hy27 => (intro wz; go_simp; try with_reducible rfl)
              refine wpAnyIn_ready (rs := [11]) (by kernel_rfl) (by simp) ?_
              refine (AllReadyIn.cons rfl (fun K hK => ?_) AllReadyIn.nil)
              go_simp
              refine hK _ _ ?_
              clear hK K
              refine wpAnyIn_done (by kernel_rfl) ?_ _
              dsimp only [onlyN]
              obtain ⟨sv', A', HN'⟩ := HN9
              clear cV3 cS3 fS3
              gi_wp2
              go_roundw
              case rel => exact ⟨n + 1, sv', A', by omega, by go_num, HN'⟩
              case measure => simp [intOf]; omega
        · go_simp
          refine hK _ _ ?_
          clear hK K
          refine wpAnyIn_ready (rs := [0, 6]) (by kernel_rfl) (by simp) ?_
          refine (AllReadyIn.cons rfl (fun K hK => ?_) (AllReadyIn.cons rfl (fun K hK => ?_) AllReadyIn.nil))
          · go_simp
            refine hK _ _ ?_
            clear hK K
            refine wpAnyIn_ready (rs := [6]) (by kernel_rfl) (by simp) ?_
            refine (AllReadyIn.cons rfl (fun K hK => ?_) AllReadyIn.nil)
            go_simp
            refine hK _ _ ?_
            clear hK K
            refine wpAnyIn_ready (rs := [7]) (by kernel_rfl) (by simp) ?_
            refine (AllReadyIn.cons rfl (fun K hK => ?_) AllReadyIn.nil)
            go_simp
            refine hK _ _ ?_
            clear hK K
            refine wpAnyIn_ready (rs := [8]) (by kernel_rfl) (by simp) ?_
            refine (AllReadyIn.cons rfl (fun K hK => ?_) AllReadyIn.nil)
            refine stepIn_app1 _ rfl _ _ 58 rfl w.heap.size 22 (.slice none 0 0) 24 Try.underlying58 infoSB rfl _ n (upd A n (.slice (some ⟨wr.heap.size, 0, none⟩) s.size cc)) rfl HO.out W1.heap.size 1 rfl HX.out HON.out (by omega) (by omega) (by omega) ?_
            intro g' cap' w9 ho9 ha9
            obtain ⟨cV3, cS3, fS3, HN9⟩ := HST.out g' cap' w9 ho9 ha9
            clear ho9 ha9
            refine hK _ _ ?_
            clear hK K
            refine wpAnyIn_take (i := 9) (v := ?v28) rfl rfl (by kernel_rfl) (by kernel_rfl) (by kernel_rfl) (fun _ _ _ h => h) ⟨Or.inl ⟨by rfl, ?hy28⟩, fun _ => rfl⟩ ?rest28
            case hy28 => (intro wz; go_simp; try with_reducible rfl)
            refine wpAnyIn_take (i := 10) (v := ?v29) rfl rfl (by kernel_rfl) (by kernel_rfl) (by kernel_rfl) (fun _ _ _ h => h) ⟨Or.inl ⟨by rfl, ?hy29⟩, fun _ => rfl⟩ ?rest29
            case hy29 => (intro wz; go_simp; try with_reducible rfl)
            refine wpAnyIn_ready (rs := [11]) (by kernel_rfl) (by simp) ?_
            refine (AllReadyIn.cons rfl (fun K hK => ?_) AllReadyIn.nil)
            go_simp
            refine hK _ _ ?_
            clear hK K
            refine wpAnyIn_done (by kernel_rfl) ?_ _
            dsimp only [onlyN]
            obtain ⟨sv', A', HN'⟩ := HN9
            clear cV3 cS3 fS3
            gi_wp2
            go_roundw
            case rel => exact ⟨n + 1, sv', A', by omega, by go_num, HN'⟩
            case measure => simp [intOf]; omega
          · go_simp
            refine hK _ _ ?_
            clear hK K
            refine wpAnyIn_ready (rs := [0, 7]) (by kernel_rfl) (by simp) ?_
            refine (AllReadyIn.cons rfl (fun K hK => ?_) (AllReadyIn.cons rfl (fun K hK => ?_) AllReadyIn.nil))
            · go_simp
              refine hK _ _ ?_
              clear hK K
              refine wpAnyIn_ready (rs := [7]) (by kernel_rfl) (by simp) ?_
              refine (AllReadyIn.cons rfl (fun K hK => ?_) AllReadyIn.nil)
              go_simp
              refine hK _ _ ?_
              clear hK K
              refine wpAnyIn_ready (rs := [8]) (by kernel_rfl) (by simp) ?_
              refine (AllReadyIn.cons rfl (fun K hK => ?_) AllReadyIn.nil)
              refine stepIn_app1 _ rfl _ _ 58 rfl w.heap.size 22 (.slice none 0 0) 24 Try.underlying58 infoSB rfl _ n (upd A n (.slice (some ⟨wr.heap.size, 0, none⟩) s.size cc)) rfl HO.out W1.heap.size 1 rfl HX.out HON.out (by omega) (by omega) (by omega) ?_
              intro g' cap' w9 ho9 ha9
              obtain ⟨cV3, cS3, fS3, HN9⟩ := HST.out g' cap' w9 ho9 ha9
              clear ho9 ha9
              refine hK _ _ ?_
              clear hK K
              refine wpAnyIn_take (i := 9) (v := ?v30) rfl rfl (by kernel_rfl) (by kernel_rfl) (by kernel_rfl) (fun _ _ _ h => h) ⟨Or.inl ⟨by rfl, ?hy30⟩, fun _ => rfl⟩ ?rest30
              case hy30 => (intro wz; go_simp; try with_reducible rfl)
              refine wpAnyIn_take (i := 10) (v := ?v31) rfl rfl (by kernel_rfl) (by kernel_rfl) (by kernel_rfl) (fun _ _ _ h => h) ⟨Or.inl ⟨by rfl, ?hy31⟩, fun _ => rfl⟩ ?rest31
              case hy31 => (intro wz; go_simp; try with_reducible rfl)
              refine wpAnyIn_ready (rs := [11]) (by kernel_rfl) (by simp) ?_
              refine (AllReadyIn.cons rfl (fun K hK => ?_) AllReadyIn.nil)
              go_simp
              refine hK _ _ ?_
              clear hK K
              refine wpAnyIn_done (by kernel_rfl) ?_ _
              dsimp only [onlyN]
              obtain ⟨sv', A', HN'⟩ := HN9
              clear cV3 cS3 fS3
              gi_wp2
              go_roundw
              case rel => exact ⟨n + 1, sv', A', by omega, by go_num, HN'⟩
              case measure => simp [intOf]; omega
            · go_simp
              refine hK _ _ ?_
              clear hK K
              refine wpAnyIn_ready (rs := [0, 8]) (by kernel_rfl) (by simp) ?_
              refine (AllReadyIn.cons rfl (fun K hK => ?_) (AllReadyIn.cons rfl (fun K hK => ?_) AllReadyIn.nil))
              · go_simp
                refine hK _ _ ?_
                clear hK K
                refine wpAnyIn_ready (rs := [8]) (by kernel_rfl) (by simp) ?_
                refine (AllReadyIn.cons rfl (fun K hK => ?_) AllReadyIn.nil)
                refine stepIn_app1 _ rfl _ _ 58 rfl w.heap.size 22 (.slice none 0 0) 24 Try.underlying58 infoSB rfl _ n (upd A n (.slice (some ⟨wr.heap.size, 0, none⟩) s.size cc)) rfl HO.out W1.heap.size 1 rfl HX.out HON.out (by omega) (by omega) (by omega) ?_
                intro g' cap' w9 ho9 ha9
                obtain ⟨cV3, cS3, fS3, HN9⟩ := HST.out g' cap' w9 ho9 ha9
                clear ho9 ha9
                refine hK _ _ ?_
                clear hK K
                refine wpAnyIn_take (i := 9) (v := ?v32) rfl rfl (by kernel_rfl) (by kernel_rfl) (by kernel_rfl) (fun _ _ _ h => h) ⟨Or.inl ⟨by rfl, ?hy32⟩, fun _ => rfl⟩ ?rest32
                case hy32 => (intro wz; go_simp; try with_reducible rfl)
                refine wpAnyIn_take (i := 10) (v := ?v33) rfl rfl (by kernel_rfl) (by kernel_rfl) (by kernel_rfl) (fun _ _ _ h => h) ⟨Or.inl ⟨by rfl, ?hy33⟩, fun _ => rfl⟩ ?rest33
                case hy33 => (intro wz; go_simp; try with_reducible rfl)
                refine wpAnyIn_ready (rs := [11]) (by kernel_rfl) (by simp) ?_
                refine (AllReadyIn.cons rfl (fun K hK => ?_) AllReadyIn.nil)
                go_simp
                refine hK _ _ ?_
                clear hK K
                refine wpAnyIn_done (by kernel_rfl) ?_ _
                dsimp only [onlyN]
                obtain ⟨sv', A', HN'⟩ := HN9
                clear cV3 cS3 fS3
                gi_wp2
                go_roundw
                case rel => exact ⟨n + 1, sv', A', by omega, by go_num, HN'⟩
                case measure => simp [intOf]; omega
              · refine stepIn_app1 _ rfl _ _ 58 rfl w.heap.size 22 (.slice none 0 0) 24 Try.underlying58 infoSB rfl _ n (upd A n (.slice (some ⟨wr.heap.size, 0, none⟩) s.size cc)) rfl HO.out W1.heap.size 1 rfl HX.out HON.out (by omega) (by omega) (by omega) ?_
                intro g' cap' w9 ho9 ha9
                obtain ⟨cV3, cS3, fS3, HN9⟩ := HST.out g' cap' w9 ho9 ha9
                clear ho9 ha9
                refine hK _ _ ?_
                clear hK K
                refine wpAnyIn_ready (rs := [0]) (by kernel_rfl) (by simp) ?_
                refine (AllReadyIn.cons rfl (fun K hK => ?_) AllReadyIn.nil)
                go_simp
                refine hK _ _ ?_
                clear hK K
                refine wpAnyIn_take (i := 9) (v := ?v34) rfl rfl (by kernel_rfl) (by kernel_rfl) (by kernel_rfl) (fun _ _ _ h => h) ⟨Or.inl ⟨by rfl, ?hy34⟩, fun _ => rfl⟩ ?rest34
                case hy34 => (intro wz; go_simp; try with_reducible rfl)
                refine wpAnyIn_take (i := 10) (v := ?v35) rfl rfl (by kernel_rfl) (by kernel_rfl) (by kernel_rfl) (fun _ _ _ h => h) ⟨Or.inl ⟨by rfl, ?hy35⟩, fun _ => rfl⟩ ?rest35
                case hy35 => (intro wz; go_simp; try with_reducible rfl)
                refine wpAnyIn_ready (rs := [11]) (by kernel_rfl) (by simp) ?_
                refine (AllReadyIn.cons rfl (fun K hK => ?_) AllReadyIn.nil)
                go_simp
                refine hK _ _ ?_
                clear hK K
                refine wpAnyIn_done (by kernel_rfl) ?_ _
                dsimp only [onlyN]
                obtain ⟨sv', A', HN'⟩ := HN9
                clear cV3 cS3 fS3
                gi_wp2
                go_roundw
                case rel => exact ⟨n + 1, sv', A', by omega, by go_num, HN'⟩
                case measure => simp [intOf]; omega
        · go_simp
          refine hK _ _ ?_
          clear hK K
          refine wpAnyIn_ready (rs := [0, 4, 7]) (by kernel_rfl) (by simp) ?_
          refine (AllReadyIn.cons rfl (fun K hK => ?_) (AllReadyIn.cons rfl (fun K hK => ?_) (AllReadyIn.cons rfl (fun K hK => ?_) AllReadyIn.nil)))
          · go_simp
            refine hK _ _ ?_
            clear hK K
            refine wpAnyIn_ready (rs := [4, 7]) (by kernel_rfl) (by simp) ?_
            refine (AllReadyIn.cons rfl (fun K hK => ?_) (AllReadyIn.cons rfl (fun K hK => ?_) AllReadyIn.nil))
            · go_simp
              refine hK _ _ ?_
              clear hK K
              refine wpAnyIn_ready (rs := [7]) (by kernel_rfl) (by simp) ?_
              refine (AllReadyIn.cons rfl (fun K hK => ?_) AllReadyIn.nil)
              go_simp
              refine hK _ _ ?_
              clear hK K
              refine wpAnyIn_ready (rs := [8]) (by kernel_rfl) (by simp) ?_
              refine (AllReadyIn.cons rfl (fun K hK => ?_) AllReadyIn.nil)
              refine stepIn_app1 _ rfl _ _ 58 rfl w.heap.size 22 (.slice none 0 0) 24 Try.underlying58 infoSB rfl _ n (upd A n (.slice (some ⟨wr.heap.size, 0, none⟩) s.size cc)) rfl HO.out W1.heap.size 1 rfl HX.out HON.out (by omega) (by omega) (by omega) ?_
              intro g' cap' w9 ho9 ha9
              obtain ⟨cV3, cS3, fS3, HN9⟩ := HST.out g' cap' w9 ho9 ha9
              clear ho9 ha9
              refine hK _ _ ?_
              clear hK K
              refine wpAnyIn_take (i := 9) (v := ?v36) rfl rfl (by kernel_rfl) (by kernel_rfl) (by kernel_rfl) (fun _ _ _ h => h) ⟨Or.inl ⟨by rfl, ?hy36⟩, fun _ => rfl⟩ ?rest36
              case hy36 => (intro wz; go_simp; try with_reducible rfl)
              refine wpAnyIn_take (i := 10) (v := ?v37) rfl rfl (by kernel_rfl) (by kernel_rfl) (by kernel_rfl) (fun _ _ _ h => h) ⟨Or.inl ⟨by rfl, ?hy37⟩, fun _ => rfl⟩ ?rest37
              case hy37 => (intro wz; go_simp; try with_reducible rfl)
              refine wpAnyIn_ready (rs := [11]) (by kernel_rfl) (by simp) ?_
              refine (AllReadyIn.cons rfl (fun K hK => ?_) AllReadyIn.nil)
              go_simp
              refine hK _ _ ?_
              clear hK K
              refine wpAnyIn_done (by kernel_rfl) ?_ _
              dsimp only [onlyN]
              obtain ⟨sv', A', HN'⟩ := HN9
              clear cV3 cS3 fS3
              gi_wp2
              go_roundw
              case rel => exact ⟨n + 1, sv', A', by omega, by go_num, HN'⟩
              case measure => simp [intOf]; omega
            · go_simp
              refine hK _ _ ?_
              clear hK K
              refine wpAnyIn_ready (rs := [4]) (by kernel_rfl) (by simp) ?_
              refine (AllReadyIn.cons rfl (fun K hK => ?_) AllReadyIn.nil)
              go_simp
              refine hK _ _ ?_
              clear hK K
              refine wpAnyIn_ready (rs := [8]) (by kernel_rfl) (by simp) ?_
              refine (AllReadyIn.cons rfl (fun K hK => ?_) AllReadyIn.nil)
              refine stepIn_app1 _ rfl _ _ 58 rfl w.heap.size 22 (.slice none 0 0) 24 Try.underlying58 infoSB rfl _ n (upd A n (.slice (some ⟨wr.heap.size, 0, none⟩) s.size cc)) rfl HO.out W1.heap.size 1 rfl HX.out HON.out (by omega) (by omega) (by omega) ?_
              intro g' cap' w9 ho9 ha9
              obtain ⟨cV3, cS3, fS3, HN9⟩ := HST.out g' cap' w9 ho9 ha9
              clear ho9 ha9
              refine hK _ _ ?_
              clear hK K
              refine wpAnyIn_take (i := 9) (v := ?v38) rfl rfl (by kernel_rfl) (by kernel_rfl) (by kernel_rfl) (fun _ _ _ h => h) ⟨Or.inl ⟨by rfl, ?hy38⟩, fun _ => rfl⟩ ?rest38
              case hy38 => (intro wz; go_simp; try with_reducible rfl)
              refine wpAnyIn_take (i := 10) (v := ?v39) rfl rfl (by kernel_rfl) (by kernel_rfl) (by kernel_rfl) (fun _ _ _ h => h) ⟨Or.inl ⟨by rfl, ?hy39⟩, fun _ => rfl⟩ ?rest39
              case hy39 => (intro wz; go_simp; try with_reducible rfl)
              refine wpAnyIn_ready (rs := [11]) (by kernel_rfl) (by simp) ?_
              refine (AllReadyIn.cons rfl (fun K hK => ?_) AllReadyIn.nil)
              go_simp
              refine hK _ _ ?_
              clear hK K
              refine wpAnyIn_done (by kernel_rfl) ?_ _
              dsimp only [onlyN]
              obtain ⟨sv', A', HN'⟩ := HN9
              clear cV3 cS3 fS3
              gi_wp2
              go_roundw
              case rel => exact ⟨n + 1, sv', A', by omega, by go_num, HN'⟩
              case measure => simp [intOf]; omega
          · go_simp
            refine hK _ _ ?_
            clear hK K
            refine wpAnyIn_ready (rs := [0, 7]) (by kernel_rfl) (by simp) ?_
            refine (AllReadyIn.cons rfl (fun K hK => ?_) (AllReadyIn.cons rfl (fun K hK => ?_) AllReadyIn.nil))
            · go_simp
              refine hK _ _ ?_
              clear hK K
              refine wpAnyIn_ready (rs := [7]) (by kernel_rfl) (by simp) ?_
              refine (AllReadyIn.cons rfl (fun K hK => ?_) AllReadyIn.nil)
              go_simp
              refine hK _ _ ?_
              clear hK K
              refine wpAnyIn_ready (rs := [8]) (by kernel_rfl) (by simp) ?_
              refine (AllReadyIn.cons rfl (fun K hK => ?_) AllReadyIn.nil)
              refine stepIn_app1 _ rfl _ _ 58 rfl w.heap.size 22 (.slice none 0 0) 24 Try.underlying58 infoSB rfl _ n (upd A n (.slice (some ⟨wr.heap.size, 0, none⟩) s.size cc)) rfl HO.out W1.heap.size 1 rfl HX.out HON.out (by omega) (by omega) (by omega) ?_
              intro g' cap' w9 ho9 ha9
              obtain ⟨cV3, cS3, fS3, HN9⟩ := HST.out g' cap' w9 ho9 ha9
              clear ho9 ha9
              refine hK _ _ ?_
              clear hK K
              refine wpAnyIn_take (i := 9) (v := ?v40) rfl rfl (by kernel_rfl) (by kernel_rfl) (by kernel_rfl) (fun _ _ _ h => h) ⟨Or.inl ⟨by rfl, ?hy40⟩, fun _ => rfl⟩ ?rest40
              case hy40 => (intro wz; go_simp; try with_reducible rfl)
              refine wpAnyIn_take (i := 10) (v := ?v41) rfl rfl (by kernel_rfl) (by kernel_rfl) (by kernel_rfl) (fun _ _ _ h => h) ⟨Or.inl ⟨by rfl, ?hy41⟩, fun _ => rfl⟩ ?rest41
              case hy41 => (intro wz; go_simp; try with_reducible rfl)
              refine wpAnyIn_ready (rs := [11]) (by kernel_rfl) (by simp) ?_
              refine (AllReadyIn.cons rfl (fun K hK => ?_) AllReadyIn.nil)
              go_simp
              refine hK _ _ ?_
              clear hK K
              refine wpAnyIn_done (by kernel_rfl) ?_ _
              dsimp only [onlyN]
              obtain ⟨sv', A', HN'⟩ := HN9
              clear cV3 cS3 fS3
              gi_wp2
              go_roundw
              case rel => exact ⟨n + 1, sv', A', by omega, by go_num, HN'⟩
              case measure => simp [intOf]; omega
            · go_simp
              refine hK _ _ ?_
              clear hK K
              refine wpAnyIn_ready (rs := [0, 8]) (by kernel_rfl) (by simp) ?_
              refine (AllReadyIn.cons rfl (fun K hK => ?_) (AllReadyIn.cons rfl (fun K hK => ?_) AllReadyIn.nil))
              · go_simp
                refine hK _ _ ?_
                clear hK K
                refine wpAnyIn_ready (rs := [8]) (by kernel_rfl) (by simp) ?_
                refine (AllReadyIn.cons rfl (fun K hK => ?_) AllReadyIn.nil)
                refine stepIn_app1 _ rfl _ _ 58 rfl w.heap.size 22 (.slice none 0 0) 24 Try.underlying58 infoSB rfl _ n (upd A n (.slice (some ⟨wr.heap.size, 0, none⟩) s.size cc)) rfl HO.out W1.heap.size 1 rfl HX.out HON.out (by omega) (by omega) (by omega) ?_
                intro g' cap' w9 ho9 ha9
                obtain ⟨cV3, cS3, fS3, HN9⟩ := HST.out g' cap' w9 ho9 ha9
                clear ho9 ha9
                refine hK _ _ ?_
                clear hK K
                refine wpAnyIn_take (i := 9) (v := ?v42) rfl rfl (by kernel_rfl) (by kernel_rfl) (by kernel_rfl) (fun _ _ _ h => h) ⟨Or.inl ⟨by rfl, ?hy42⟩, fun _ => rfl⟩ ?rest42
                case hy42 => (intro wz; go_simp; try with_reducible rfl)
                refine wpAnyIn_take (i := 10) (v := ?v43) rfl rfl (by kernel_rfl) (by kernel_rfl) (by kernel_rfl) (fun _ _ _ h => h) ⟨Or.inl ⟨by rfl, ?hy43⟩, fun _ => rfl⟩ ?rest43
                case hy43 => (intro wz; go_simp; try with_reducible rfl)
                refine wpAnyIn_ready (rs := [11]) (by kernel_rfl) (by simp) ?_
                refine (AllReadyIn.cons rfl (fun K hK => ?_) AllReadyIn.nil)
                go_simp
                refine hK _ _ ?_
                clear hK K
                refine wpAnyIn_done (by kernel_rfl) ?_ _
                dsimp only [onlyN]
                obtain ⟨sv', A', HN'⟩ := HN9
                clear cV3 cS3 fS3
                gi_wp2
                go_roundw
                case rel => exact ⟨n + 1, sv', A', by omega, by go_num, HN'⟩
                case measure => simp [intOf]; omega
              · refine stepIn_app1 _ rfl _ _ 58 rfl w.heap.size 22 (.slice none 0 0) 24 Try.underlying58 infoSB rfl _ n (upd A n (.slice (some ⟨wr.heap.size, 0, none⟩) s.size cc)) rfl HO.out W1.heap.size 1 rfl HX.out HON.out (by omega) (by omega) (by omega) ?_
                intro g' cap' w9 ho9 ha9
                obtain ⟨cV3, cS3, fS3, HN9⟩ := HST.out g' cap' w9 ho9 ha9
                clear ho9 ha9
                refine hK _ _ ?_
                clear hK K
                refine wpAnyIn_ready (rs := [0]) (by kernel_rfl) (by simp) ?_
                refine (AllReadyIn.cons rfl (fun K hK => ?_) AllReadyIn.nil)
                go_simp
                refine hK _ _ ?_
                clear hK K
                refine wpAnyIn_take (i := 9) (v := ?v44) rfl rfl (by kernel_rfl) (by kernel_rfl) (by kernel_rfl) (fun _ _ _ h => h) ⟨Or.inl ⟨by rfl, ?hy44⟩, fun _ => rfl⟩ ?rest44
                case hy44 => (intro wz; go_simp; try with_reducible rfl)
                refine wpAnyIn_take (i := 10) (v := ?v45) rfl rfl (by kernel_rfl) (by kernel_rfl) (by kernel_rfl) (fun _ _ _ h => h) ⟨Or.inl ⟨by rfl, ?hy45⟩, fun _ => rfl⟩ ?rest45
                case hy45 => (intro wz; go_simp; try with_reducible rfl)
                refine wpAnyIn_ready (rs := [11]) (by kernel_rfl) (by simp) ?_
                refine (AllReadyIn.cons rfl (fun K hK => ?_) AllReadyIn.nil)
                go_simp
                refine hK _ _ ?_
                clear hK K
                refine wpAnyIn_done (by kernel_rfl) ?_ _
                dsimp only [onlyN]
                obtain ⟨sv', A', HN'⟩ := HN9
                clear cV3 cS3 fS3
                gi_wp2
                go_roundw
                case rel => exact ⟨n + 1, sv', A', by omega, by go_num, HN'⟩
                case measure => simp [intOf]; omega
          · go_simp
            refine hK _ _ ?_
            clear hK K
            refine wpAnyIn_ready (rs := [0, 4]) (by kernel_rfl) (by simp) ?_
            refine (AllReadyIn.cons rfl (fun K hK => ?_) (AllReadyIn.cons rfl (fun K hK => ?_) AllReadyIn.nil))
            · go_simp
              refine hK _ _ ?_
              clear hK K
              refine wpAnyIn_ready (rs := [4]) (by kernel_rfl) (by simp) ?_
              refine (AllReadyIn.cons rfl (fun K hK => ?_) AllReadyIn.nil)
              go_simp
              refine hK _ _ ?_
              clear hK K
              refine wpAnyIn_ready (rs := [8]) (by kernel_rfl) (by simp) ?_
              refine (AllReadyIn.cons rfl (fun K hK => ?_) AllReadyIn.nil)
              refine stepIn_app1 _ rfl _ _ 58 rfl w.heap.size 22 (.slice none 0 0) 24 Try.underlying58 infoSB rfl _ n (upd A n (.slice (some ⟨wr.heap.size, 0, none⟩) s.size cc)) rfl HO.out W1.heap.size 1 rfl HX.out HON.out (by omega) (by omega) (by omega) ?_
              intro g' cap' w9 ho9 ha9
              obtain ⟨cV3, cS3, fS3, HN9⟩ := HST.out g' cap' w9 ho9 ha9
              clear ho9 ha9
              refine hK _ _ ?_
              clear hK K
              refine wpAnyIn_take (i := 9) (v := ?v46) rfl rfl (by kernel_rfl) (by kernel_rfl) (by kernel_rfl) (fun _ _ _ h => h) ⟨Or.inl ⟨by rfl, ?hy46⟩, fun _ => rfl⟩ ?rest46
              case hy46 => (intro wz; go_simp; try with_reducible rfl)
              refine wpAnyIn_take (i := 10) (v := ?v47) rfl rfl (by kernel_rfl) (by kernel_rfl) (by kernel_rfl) (fun _ _ _ h => h) ⟨Or.inl ⟨by rfl, ?hy47⟩, fun _ => rfl⟩ ?rest47
              case hy47 => (intro wz; go_simp; try with_reducible rfl)
              refine wpAnyIn_ready (rs := [11]) (by kernel_rfl) (by simp) ?_
              refine (AllReadyIn.cons rfl (fun K hK => ?_) AllReadyIn.nil)
              go_simp
              refine hK _ _ ?_
              clear hK K
              refine wpAnyIn_done (by kernel_rfl) ?_ _
              dsimp only [onlyN]
              obtain ⟨sv', A', HN'⟩ := HN9
              clear cV3 cS3 fS3
              gi_wp2
              go_roundw
              case rel => exact ⟨n + 1, sv', A', by omega, by go_num, HN'⟩
              case measure => simp [intOf]; omega
            · go_simp
              refine hK _ _ ?_
              clear hK K
              refine wpAnyIn_ready (rs := [0, 8]) (by kernel_rfl) (by simp) ?_
              refine (AllReadyIn.cons rfl (fun K hK => ?_) (AllReadyIn.cons rfl (fun K hK => ?_) AllReadyIn.nil))
              · go_simp
                refine hK _ _ ?_
                clear hK K
                refine wpAnyIn_ready (rs := [8]) (by kernel_rfl) (by simp) ?_
                refine (AllReadyIn.cons rfl (fun K hK => ?_) AllReadyIn.nil)
                refine stepIn_app1 _ rfl _ _ 58 rfl w.heap.size 22 (.slice none 0 0) 24 Try.underlying58 infoSB rfl _ n (upd A n (.slice (some ⟨wr.heap.size, 0, none⟩) s.size cc)) rfl HO.out W1.heap.size 1 rfl HX.out HON.out (by omega) (by omega) (by omega) ?_
                intro g' cap' w9 ho9 ha9
                obtain ⟨cV3, cS3, fS3, HN9⟩ := HST.out g' cap' w9 ho9 ha9
                clear ho9 ha9
                refine hK _ _ ?_
                clear hK K
                refine wpAnyIn_take (i := 9) (v := ?v48) rfl rfl (by kernel_rfl) (by kernel_rfl) (by kernel_rfl) (fun _ _ _ h => h) ⟨Or.inl ⟨by rfl, ?hy48⟩, fun _ => rfl⟩ ?rest48
                case hy48 => (intro wz; go_simp; try with_reducible rfl)
                refine wpAnyIn_take (i := 10) (v := ?v49) rfl rfl (by kernel_rfl) (by kernel_rfl) (by kernel_rfl) (fun _ _ _ h => h) ⟨Or.inl ⟨by rfl, ?hy49⟩, fun _ => rfl⟩ ?rest49
                case hy49 => (intro wz; go_simp; try with_reducible rfl)
                refine wpAnyIn_ready (rs := [11]) (by kernel_rfl) (by simp) ?_
                refine (AllReadyIn.cons rfl (fun K hK => ?_) AllReadyIn.nil)
                go_simp
                refine hK _ _ ?_
                clear hK K
                refine wpAnyIn_done (by kernel_rfl) ?_ _
                dsimp only [onlyN]
                obtain ⟨sv', A', HN'⟩ := HN9
                clear cV3 cS3 fS3
                gi_wp2
                go_roundw
                case rel => exact ⟨n + 1, sv', A', by omega, by go_num, HN'⟩
                case measure => simp [intOf]; omega
              · refine stepIn_app1 _ rfl _ _ 58 rfl w.heap.size 22 (.slice none 0 0) 24 Try.underlying58 infoSB rfl _ n (upd A n (.slice (some ⟨wr.heap.size, 0, none⟩) s.size cc)) rfl HO.out W1.heap.size 1 rfl HX.out HON.out (by omega) (by omega) (by omega) ?_
                intro g' cap' w9 ho9 ha9
                obtain ⟨cV3, cS3, fS3, HN9⟩ := HST.out g' cap' w9 ho9 ha9
                clear ho9 ha9
                refine hK _ _ ?_
                clear hK K
                refine wpAnyIn_ready (rs := [0]) (by kernel_rfl) (by simp) ?_
                refine (AllReadyIn.cons rfl (fun K hK => ?_) AllReadyIn.nil)
                go_simp
                refine hK _ _ ?_
                clear hK K
                refine wpAnyIn_take (i := 9) (v := ?v50) rfl rfl (by kernel_rfl) (by kernel_rfl) (by kernel_rfl) (fun _ _ _ h => h) ⟨Or.inl ⟨by rfl, ?hy50⟩, fun _ => rfl⟩ ?rest50
                case hy50 => (intro wz; go_simp; try with_reducible rfl)
                refine wpAnyIn_take (i := 10) (v := ?v51) rfl rfl (by kernel_rfl) (by kernel_rfl) (by kernel_rfl) (fun _ _ _ h => h) ⟨Or.inl ⟨by rfl, ?hy51⟩, fun _ => rfl⟩ ?rest51
                case hy51 => (intro wz; go_simp; try with_reducible rfl)
                refine wpAnyIn_ready (rs := [11]) (by kernel_rfl) (by simp) ?_
                refine (AllReadyIn.cons rfl (fun K hK => ?_) AllReadyIn.nil)
                go_simp
                refine hK _ _ ?_
                clear hK K
                refine wpAnyIn_done (by kernel_rfl) ?_ _
                dsimp only [onlyN]
                obtain ⟨sv', A', HN'⟩ := HN9
                clear cV3 cS3 fS3
                gi_wp2
                go_roundw
                case rel => exact ⟨n + 1, sv', A', by omega, by go_num, HN'⟩
                case measure => simp [intOf]; omega
      · go_simp
        refine hK _ _ ?_
        clear hK K
        refine wpAnyIn_ready (rs := [0, 1, 7]) (by kernel_rfl) (by simp) ?_
        refine (AllReadyIn.cons rfl (fun K hK => ?_) (AllReadyIn.cons rfl (fun K hK => ?_) (AllReadyIn.cons rfl (fun K hK => ?_) AllReadyIn.nil)))
        · go_simp
          refine hK _ _ ?_
          clear hK K
          refine wpAnyIn_ready (rs := [1, 7]) (by kernel_rfl) (by simp) ?_
          refine (AllReadyIn.cons rfl (fun K hK => ?_) (AllReadyIn.cons rfl (fun K hK => ?_) AllReadyIn.nil))
          · go_simp
            refine hK _ _ ?_
            clear hK K
            refine wpAnyIn_take (i := 2) (v := ?v52) rfl rfl (by kernel_rfl) (by kernel_rfl) (by kernel_rfl) (fun _ _ _ h => h) ⟨Or.inl ⟨by rfl, ?hy52⟩, fun _ => rfl⟩ ?rest52
            case hy52 => (intro wz; go_simp; try with_reducible rfl)
            refine wpAnyIn_take (i := 3) (v := ?v53) rfl rfl (by kernel_rfl) (by kernel_rfl) (by kernel_rfl) (fun _ _ _ h => h) ⟨Or.inl ⟨by rfl, ?hy53⟩, fun _ => rfl⟩ ?rest53
            case hy53 => (intro wz; go_simp; try with_reducible rfl)
            refine wpAnyIn_ready (rs := [4, 7]) (by kernel_rfl) (by simp) ?_
            refine (AllReadyIn.cons rfl (fun K hK => ?_) (AllReadyIn.cons rfl (fun K hK => ?_) AllReadyIn.nil))
            · go_simp
              refine hK _ _ ?_
              clear hK K
              refine wpAnyIn_ready (rs := [7]) (by kernel_rfl) (by simp) ?_
              refine (AllReadyIn.cons rfl (fun K hK => ?_) AllReadyIn.nil)
              go_simp
              refine hK _ _ ?_
              clear hK K
              refine wpAnyIn_ready (rs := [8]) (by kernel_rfl) (by simp) ?_
              refine (AllReadyIn.cons rfl (fun K hK => ?_) AllReadyIn.nil)
              refine stepIn_app1 _ rfl _ _ 58 rfl w.heap.size 22 (.slice none 0 0) 24 Try.underlying58 infoSB rfl _ n (upd A n (.slice (some ⟨wr.heap.size, 0, none⟩) s.size cc)) rfl HO.out W1.heap.size 1 rfl HX.out HON.out (by omega) (by omega) (by omega) ?_
              intro g' cap' w9 ho9 ha9
              obtain ⟨cV3, cS3, fS3, HN9⟩ := HST.out g' cap' w9 ho9 ha9
              clear ho9 ha9
              refine hK _ _ ?_
              clear hK K
              refine wpAnyIn_take (i := 9) (v := ?v54) rfl rfl (by kernel_rfl) (by kernel_rfl) (by kernel_rfl) (fun _ _ _ h => h) ⟨Or.inl ⟨by rfl, ?hy54⟩, fun _ => rfl⟩ ?rest54
              case hy54 => (intro wz; go_simp; try with_reducible rfl)
              refine wpAnyIn_take (i := 10) (v := ?v55) rfl rfl (by kernel_rfl) (by kernel_rfl) (by kernel_rfl) (fun _ _ _ h => h) ⟨Or.inl ⟨by rfl, ?hy55⟩, fun _ => rfl⟩ ?rest55
              case hy55 => (intro wz; go_simp; try with_reducible rfl)
              refine wpAnyIn_ready (rs := [11]) (by kernel_rfl) (by simp) ?_
              refine (AllReadyIn.cons rfl (fun K hK => ?_) AllReadyIn.nil)
              go_simp
              refine hK _ _ ?_
              clear hK K
              refine wpAnyIn_done (by kernel_rfl) ?_ _
              dsimp only [onlyN]
              obtain ⟨sv', A', HN'⟩ := HN9
              clear cV3 cS3 fS3
              gi_wp2
              go_roundw
              case rel => exact ⟨n + 1, sv', A', by omega, by go_num, HN'⟩
              case measure => simp [intOf]; omega
            · go_simp
              refine hK _ _ ?_
              clear hK K
              refine wpAnyIn_ready (rs := [4]) (by kernel_rfl) (by simp) ?_
              refine (AllReadyIn.cons rfl (fun K hK => ?_) AllReadyIn.nil)
              go_simp
              refine hK _ _ ?_
              clear hK K
              refine wpAnyIn_ready (rs := [8]) (by kernel_rfl) (by simp) ?_
              refine (AllReadyIn.cons rfl (fun K hK => ?_) AllReadyIn.nil)
              refine stepIn_app1 _ rfl _ _ 58 rfl w.heap.size 22 (.slice none 0 0) 24 Try.underlying58 infoSB rfl _ n (upd A n (.slice (some ⟨wr.heap.size, 0, none⟩) s.size cc)) rfl HO.out W1.heap.size 1 rfl HX.out HON.out (by omega) (by omega) (by omega) ?_
              intro g' cap' w9 ho9 ha9
              obtain ⟨cV3, cS3, fS3, HN9⟩ := HST.out g' cap' w9 ho9 ha9
              clear ho9 ha9
              refine hK _ _ ?_
              clear hK K
              refine wpAnyIn_take (i := 9) (v := ?v56) rfl rfl (by kernel_rfl) (by kernel_rfl) (by kernel_rfl) (fun _ _ _ h => h) ⟨Or.inl ⟨by rfl, ?hy56⟩, fun _ => rfl⟩ ?rest56
              case hy56 => (intro wz; go_simp; try with_reducible rfl)
              refine wpAnyIn_take (i := 10) (v := ?v57) rfl rfl (by kernel_rfl) (by kernel_rfl) (by kernel_rfl) (fun _ _ _ h => h) ⟨Or.inl ⟨by rfl, ?hy57⟩, fun _ => rfl⟩ ?rest57
              case hy57 => (intro wz; go_simp; try with_reducible rfl)
              refine wpAnyIn_ready (rs := [11]) (by kernel_rfl) (by simp) ?_
              refine (AllReadyIn.cons rfl (fun K hK => ?_) AllReadyIn.nil)
              go_simp
              refine hK _ _ ?_
              clear hK K
              refine wpAnyIn_done (by kernel_rfl) ?_ _
              dsimp only [onlyN]
              obtain ⟨sv', A', HN'⟩ := HN9
              clear cV3 cS3 fS3
              gi_wp2
              go_roundw
              case rel => exact ⟨n + 1, sv', A', by omega, by go_num, HN'⟩
              case measure => simp [intOf]; omega
          · go_simp
            refine hK _ _ ?_
            clear hK K
            refine wpAnyIn_ready (rs := [1]) (by kernel_rfl) (by simp) ?_
            refine (AllReadyIn.cons rfl (fun K hK => ?_) AllReadyIn.nil)
            go_simp
            refine hK _ _ ?_
            clear hK K
            refine wpAnyIn_take (i := 2) (v := ?v58) rfl rfl (by kernel_rfl) (by kernel_rfl) (by kernel_rfl) (fun _ _ _ h => h) ⟨Or.inl ⟨by rfl, ?hy58⟩, fun _ => rfl⟩ ?rest58
            case hy58 => (intro wz; go_simp; try with_reducible rfl)
            refine wpAnyIn_take (i := 3) (v := ?v59) rfl rfl (by kernel_rfl) (by kernel_rfl) (by kernel_rfl) (fun _ _ _ h => h) ⟨Or.inl ⟨by rfl, ?hy59⟩, fun _ => rfl⟩ ?rest59
            case hy59 => (intro wz; go_simp; try with_reducible rfl)
            refine wpAnyIn_ready (rs := [4]) (by kernel_rfl) (by simp) ?_
            refine (AllReadyIn.cons rfl (fun K hK => ?_) AllReadyIn.nil)
            go_simp
            refine hK _ _ ?_
            clear hK K
            refine wpAnyIn_ready (rs := [8]) (by kernel_rfl) (by simp) ?_
            refine (AllReadyIn.cons rfl (fun K hK => ?_) AllReadyIn.nil)
            refine stepIn_app1 _ rfl _ _ 58 rfl w.heap.size 22 (.slice none 0 0) 24 Try.underlying58 infoSB rfl _ n (upd A n (.slice (some ⟨wr.heap.size, 0, none⟩) s.size cc)) rfl HO.out W1.heap.size 1 rfl HX.out HON.out (by omega) (by omega) (by omega) ?_
            intro g' cap' w9 ho9 ha9
            obtain ⟨cV3, cS3, fS3, HN9⟩ := HST.out g' cap' w9 ho9 ha9
            clear ho9 ha9
            refine hK _ _ ?_
            clear hK K
            refine wpAnyIn_take (i := 9) (v := ?v60) rfl rfl (by kernel_rfl) (by kernel_rfl) (by kernel_rfl) (fun _ _ _ h => h) ⟨Or.inl ⟨by rfl, ?hy60⟩, fun _ => rfl⟩ ?rest60
            case hy60 => (intro wz; go_simp; try with_reducible rfl)
            refine wpAnyIn_take (i := 10) (v := ?v61) rfl rfl (by kernel_rfl) (by kernel_rfl) (by kernel_rfl) (fun _ _ _ h => h) ⟨Or.inl ⟨by rfl, ?hy61⟩, fun _ => rfl⟩ ?rest61
            case hy61 => (intro wz; go_simp; try with_reducible rfl)
            refine wpAnyIn_ready (rs := [11]) (by kernel_rfl) (by simp) ?_
            refine (AllReadyIn.cons rfl (fun K hK => ?_) AllReadyIn.nil)
            go_simp
            refine hK _ _ ?_
            clear hK K
            refine wpAnyIn_done (by kernel_rfl) ?_ _
            dsimp only [onlyN]
            obtain ⟨sv', A', HN'⟩ := HN9
            clear cV3 cS3 fS3
            gi_wp2
            go_roundw
            case rel => exact ⟨n + 1, sv', A', by omega, by go_num, HN'⟩
            case measure => simp [intOf]; omega
        · go_simp
          refine hK _ _ ?_
          clear hK K
          refine wpAnyIn_take (i := 2) (v := ?v62) rfl rfl (by kernel_rfl) (by kernel_rfl) (by kernel_rfl) (fun _ _ _ h => h) ⟨Or.inl ⟨by rfl, ?hy62⟩, fun _ => rfl⟩ ?rest62
          case hy62 => (intro wz; go_simp; try with_reducible rfl)
          refine wpAnyIn_take (i := 3) (v := ?v63) rfl rfl (by kernel_rfl) (by kernel_rfl) (by kernel_rfl) (fun _ _ _ h => h) ⟨Or.inl ⟨by rfl, ?hy63⟩, fun _ => rfl⟩ ?rest63
          case hy63 => (intro wz; go_simp; try with_reducible rfl)
          refine wpAnyIn_ready (rs := [0, 4, 7]) (by kernel_rfl) (by simp) ?_
          refine (AllReadyIn.cons rfl (fun K hK => ?_) (AllReadyIn.cons rfl (fun K hK => ?_) (AllReadyIn.cons rfl (fun K hK => ?_) AllReadyIn.nil)))
          · go_simp
            refine hK _ _ ?_
            clear hK K
            refine wpAnyIn_ready (rs := [4, 7]) (by kernel_rfl) (by simp) ?_
            refine (AllReadyIn.cons rfl (fun K hK => ?_) (AllReadyIn.cons rfl (fun K hK => ?_) AllReadyIn.nil))
            · go_simp
              refine hK _ _ ?_
              clear hK K
              refine wpAnyIn_ready (rs := [7]) (by kernel_rfl) (by simp) ?_
              refine (AllReadyIn.cons rfl (fun K hK => ?_) AllReadyIn.nil)
              go_simp
              refine hK _ _ ?_
              clear hK K
              refine wpAnyIn_ready (rs := [8]) (by kernel_rfl) (by simp) ?_
              refine (AllReadyIn.cons rfl (fun K hK => ?_) AllReadyIn.nil)
              refine stepIn_app1 _ rfl _ _ 58 rfl w.heap.size 22 (.slice none 0 0) 24 Try.underlying58 infoSB rfl _ n (upd A n (.slice (some ⟨wr.heap.size, 0, none⟩) s.size cc)) rfl HO.out W1.heap.size 1 rfl HX.out HON.out (by omega) (by omega) (by omega) ?_
              intro g' cap' w9 ho9 ha9
              obtain ⟨cV3, cS3, fS3, HN9⟩ := HST.out g' cap' w9 ho9 ha9
              clear ho9 ha9
              refine hK _ _ ?_
              clear hK K
              refine wpAnyIn_take (i := 9) (v := ?v64) rfl rfl (by kernel_rfl) (by kernel_rfl) (by kernel_rfl) (fun _ _ _ h => h) ⟨Or.inl ⟨by rfl, ?hy64⟩, fun _ => rfl⟩ ?rest64
              case hy64 => (intro wz; go_simp; try with_reducible rfl)
              refine wpAnyIn_take (i := 10) (v := ?v65) rfl rfl (by kernel_rfl) (by kernel_rfl) (by kernel_rfl) (fun _ _ _ h => h) ⟨Or.inl ⟨by rfl, ?hy65⟩, fun _ => rfl⟩ ?rest65
              case hy65 => (intro wz; go_simp; try with_reducible rfl)
              refine wpAnyIn_ready (rs := [11]) (by kernel_rfl) (by simp) ?_
              refine (AllReadyIn.cons rfl (fun K hK => ?_) AllReadyIn.nil)
              go_simp
              refine hK _ _ ?_
              clear hK K
              refine wpAnyIn_done (by kernel_rfl) ?_ _
              dsimp only [onlyN]
              obtain ⟨sv', A', HN'⟩ := HN9
              clear cV3 cS3 fS3
              gi_wp2
              go_roundw
              case rel => exact ⟨n + 1, sv', A', by omega, by go_num, HN'⟩
              case measure => simp [intOf]; omega
            · go_simp
              refine hK _ _ ?_
              clear hK K
              refine wpAnyIn_ready (rs := [4]) (by kernel_rfl) (by simp) ?_
              refine (AllReadyIn.cons rfl (fun K hK => ?_) AllReadyIn.nil)
              go_simp
              refine hK _ _ ?_
              clear hK K
              refine wpAnyIn_ready (rs := [8]) (by kernel_rfl) (by simp) ?_
              refine (AllReadyIn.cons rfl (fun K hK => ?_) AllReadyIn.nil)
              refine stepIn_app1 _ rfl _ _ 58 rfl w.heap.size 22 (.slice none 0 0) 24 Try.underlying58 infoSB rfl _ n (upd A n (.slice (some ⟨wr.heap.size, 0, none⟩) s.size cc)) rfl HO.out W1.heap.size 1 rfl HX.out HON.out (by omega) (by omega) (by omega) ?_
              intro g' cap' w9 ho9 ha9
              obtain ⟨cV3, cS3, fS3, HN9⟩ := HST.out g' cap' w9 ho9 ha9
              clear ho9 ha9
              refine hK _ _ ?_
              clear hK K
              refine wpAnyIn_take (i := 9) (v := ?v66) rfl rfl (by kernel_rfl) (by kernel_rfl) (by kernel_rfl) (fun _ _ _ h => h) ⟨Or.inl ⟨by rfl, ?hy66⟩, fun _ => rfl⟩ ?rest66
              case hy66 => (intro wz; go_simp; try with_reducible rfl)
              refine wpAnyIn_take (i := 10) (v := ?v67) rfl rfl (by kernel_rfl) (by kernel_rfl) (by kernel_rfl) (fun _ _ _ h => h) ⟨Or.inl ⟨by rfl, ?hy67⟩, fun _ => rfl⟩ ?rest67
              case hy67 => (intro wz; go_simp; try with_reducible rfl)
              refine wpAnyIn_ready (rs := [11]) (by kernel_rfl) (by simp) ?_
              refine (AllReadyIn.cons rfl (fun K hK => ?_) AllReadyIn.nil)
              go_simp
              refine hK _ _ ?_
              clear hK K
              refine wpAnyIn_done (by kernel_rfl) ?_ _
              dsimp only [onlyN]
              obtain ⟨sv', A', HN'⟩ := HN9
              clear cV3 cS3 fS3
              gi_wp2
              go_roundw
              case rel => exact ⟨n + 1, sv', A', by omega, by go_num, HN'⟩
              case measure => simp [intOf]; omega
          · go_simp
            refine hK _ _ ?_
            clear hK K
            refine wpAnyIn_ready (rs := [0, 7]) (by kernel_rfl) (by simp) ?_
            refine (AllReadyIn.cons rfl (fun K hK => ?_) (AllReadyIn.cons rfl (fun K hK => ?_) AllReadyIn.nil))
            · go_simp
              refine hK _ _ ?_
              clear hK K
              refine wpAnyIn_ready (rs := [7]) (by kernel_rfl) (by simp) ?_
              refine (AllReadyIn.cons rfl (fun K hK => ?_) AllReadyIn.nil)
              go_simp
              refine hK _ _ ?_
              clear hK K
              refine wpAnyIn_ready (rs := [8]) (by kernel_rfl) (by simp) ?_
              refine (AllReadyIn.cons rfl (fun K hK => ?_) AllReadyIn.nil)
              refine stepIn_app1 _ rfl _ _ 58 rfl w.heap.size 22 (.slice none 0 0) 24 Try.underlying58 infoSB rfl _ n (upd A n (.slice (some ⟨wr.heap.size, 0, none⟩) s.size cc)) rfl HO.out W1.heap.size 1 rfl HX.out HON.out (by omega) (by omega) (by omega) ?_
              intro g' cap' w9 ho9 ha9
              obtain ⟨cV3, cS3, fS3, HN9⟩ := HST.out g' cap' w9 ho9 ha9
              clear ho9 ha9
              refine hK _ _ ?_
              clear hK K
              refine wpAnyIn_take (i := 9) (v := ?v68) rfl rfl (by kernel_rfl) (by kernel_rfl) (by kernel_rfl) (fun _ _ _ h => h) ⟨Or.inl ⟨by rfl, ?hy68⟩, fun _ => rfl⟩ ?rest68
              case hy68 => (intro wz; go_simp; try with_reducible rfl)
              refine wpAnyIn_take (i := 10) (v := ?v69) rfl rfl (by kernel_rfl) (by kernel_rfl) (by kernel_rfl) (fun _ _ _ h => h) ⟨Or.inl ⟨by rfl, ?hy69⟩, fun _ => rfl⟩ ?rest69
              case hy69 => (intro wz; go_simp; try with_reducible rfl)
              refine wpAnyIn_ready (rs := [11]) (by kernel_rfl) (by simp) ?_
              refine (AllReadyIn.cons rfl (fun K hK => ?_) AllReadyIn.nil)
              go_simp
              refine hK _ _ ?_
              clear hK K
              refine wpAnyIn_done (by kernel_rfl) ?_ _
              dsimp only [onlyN]
              obtain ⟨sv', A', HN'⟩ := HN9
              clear cV3 cS3 fS3
              gi_wp2
              go_roundw
              case rel => exact ⟨n + 1, sv', A', by omega, by go_num, HN'⟩
              case measure => simp [intOf]; omega
            · go_simp
              refine hK _ _ ?_
              clear hK K
              refine wpAnyIn_ready (rs := [0, 8]) (by kernel_rfl) (by simp) ?_
              refine (AllReadyIn.cons rfl (fun K hK => ?_) (AllReadyIn.cons rfl (fun K hK => ?_) AllReadyIn.nil))
              · go_simp
                refine hK _ _ ?_
                clear hK K
                refine wpAnyIn_ready (rs := [8]) (by kernel_rfl) (by simp) ?_
                refine (AllReadyIn.cons rfl (fun K hK => ?_) AllReadyIn.nil)
                refine stepIn_app1 _ rfl _ _ 58 rfl w.heap.size 22 (.slice none 0 0) 24 Try.underlying58 infoSB rfl _ n (upd A n (.slice (some ⟨wr.heap.size, 0, none⟩) s.size cc)) rfl HO.out W1.heap.size 1 rfl HX.out HON.out (by omega) (by omega) (by omega) ?_
                intro g' cap' w9 ho9 ha9
                obtain ⟨cV3, cS3, fS3, HN9⟩ := HST.out g' cap' w9 ho9 ha9
                clear ho9 ha9
                refine hK _ _ ?_
                clear hK K
                refine wpAnyIn_take (i := 9) (v := ?v70) rfl rfl (by kernel_rfl) (by kernel_rfl) (by kernel_rfl) (fun _ _ _ h => h) ⟨Or.inl ⟨by rfl, ?hy70⟩, fun _ => rfl⟩ ?rest70
                case hy70 => (intro wz; go_simp; try with_reducible rfl)
                refine wpAnyIn_take (i := 10) (v := ?v71) rfl rfl (by kernel_rfl) (by kernel_rfl) (by kernel_rfl) (fun _ _ _ h => h) ⟨Or.inl ⟨by rfl, ?hy71⟩, fun _ => rfl⟩ ?rest71
                case hy71 => (intro wz; go_simp; try with_reducible rfl)
                refine wpAnyIn_ready (rs := [11]) (by kernel_rfl) (by simp) ?_
                refine (AllReadyIn.cons rfl (fun K hK => ?_) AllReadyIn.nil)
                go_simp
                refine hK _ _ ?_
                clear hK K
                refine wpAnyIn_done (by kernel_rfl) ?_ _
                dsimp only [onlyN]
                obtain ⟨sv', A', HN'⟩ := HN9
                clear cV3 cS3 fS3
                gi_wp2
                go_roundw
                case rel => exact ⟨n + 1, sv', A', by omega, by go_num, HN'⟩
                case measure => simp [intOf]; omega
              · refine stepIn_app1 _ rfl _ _ 58 rfl w.heap.size 22 (.slice none 0 0) 24 Try.underlying58 infoSB rfl _ n (upd A n (.slice (some ⟨wr.heap.size, 0, none⟩) s.size cc)) rfl HO.out W1.heap.size 1 rfl HX.out HON.out (by omega) (by omega) (by omega) ?_
                intro g' cap' w9 ho9 ha9
                obtain ⟨cV3, cS3, fS3, HN9⟩ := HST.out g' cap' w9 ho9 ha9
                clear ho9 ha9
                refine hK _ _ ?_
                clear hK K
                refine wpAnyIn_ready (rs := [0]) (by kernel_rfl) (by simp) ?_
                refine (AllReadyIn.cons rfl (fun K hK => ?_) AllReadyIn.nil)
                go_simp
                refine hK _ _ ?_
                clear hK K
                refine wpAnyIn_take (i := 9) (v := ?v72) rfl rfl (by kernel_rfl) (by kernel_rfl) (by kernel_rfl) (fun _ _ _ h => h) ⟨Or.inl ⟨by rfl, ?hy72⟩, fun _ => rfl⟩ ?rest72
                case hy72 => (intro wz; go_simp; try with_reducible rfl)
                refine wpAnyIn_take (i := 10) (v := ?v73) rfl rfl (by kernel_rfl) (by kernel_rfl) (by kernel_rfl) (fun _ _ _ h => h) ⟨Or.inl ⟨by rfl, ?hy73⟩, fun _ => rfl⟩ ?rest73
                case hy73 => (intro wz; go_simp; try with_reducible rfl)
                refine wpAnyIn_ready (rs := [11]) (by kernel_rfl) (by simp) ?_
                refine (AllReadyIn.cons rfl (fun K hK => ?_) AllReadyIn.nil)
                go_simp
                refine hK _ _ ?_
                clear hK K
                refine wpAnyIn_done (by kernel_rfl) ?_ _
                dsimp only [onlyN]
                obtain ⟨sv', A', HN'⟩ := HN9
                clear cV3 cS3 fS3
                gi_wp2
                go_roundw
                case rel => exact ⟨n + 1, sv', A', by omega, by go_num, HN'⟩
                case measure => simp [intOf]; omega
          · go_simp
            refine hK _ _ ?_
            clear hK K
            refine wpAnyIn_ready (rs := [0, 4]) (by kernel_rfl) (by simp) ?_
            refine (AllReadyIn.cons rfl (fun K hK => ?_) (AllReadyIn.cons rfl (fun K hK => ?_) AllReadyIn.nil))
            · go_simp
              refine hK _ _ ?_
              clear hK K
              refine wpAnyIn_ready (rs := [4]) (by kernel_rfl) (by simp) ?_
              refine (AllReadyIn.cons rfl (fun K hK => ?_) AllReadyIn.nil)
              go_simp
              refine hK _ _ ?_
              clear hK K
              refine wpAnyIn_ready (rs := [8]) (by kernel_rfl) (by simp) ?_
              refine (AllReadyIn.cons rfl (fun K hK => ?_) AllReadyIn.nil)
              refine stepIn_app1 _ rfl _ _ 58 rfl w.heap.size 22 (.slice none 0 0) 24 Try.underlying58 infoSB rfl _ n (upd A n (.slice (some ⟨wr.heap.size, 0, none⟩) s.size cc)) rfl HO.out W1.heap.size 1 rfl HX.out HON.out (by omega) (by omega) (by omega) ?_
              intro g' cap' w9 ho9 ha9
              obtain ⟨cV3, cS3, fS3, HN9⟩ := HST.out g' cap' w9 ho9 ha9
              clear ho9 ha9
              refine hK _ _ ?_
              clear hK K
              refine wpAnyIn_take (i := 9) (v := ?v74) rfl rfl (by kernel_rfl) (by kernel_rfl) (by kernel_rfl) (fun _ _ _ h => h) ⟨Or.inl ⟨by rfl, ?hy74⟩, fun _ => rfl⟩ ?rest74
              case hy74 => (intro wz; go_simp; try with_reducible rfl)
              refine wpAnyIn_take (i := 10) (v := ?v75) rfl rfl (by kernel_rfl) (by kernel_rfl) (by kernel_rfl) (fun _ _ _ h => h) ⟨Or.inl ⟨by rfl, ?hy75⟩, fun _ => rfl⟩ ?rest75
              case hy75 => (intro wz; go_simp; try with_reducible rfl)
              refine wpAnyIn_ready (rs := [11]) (by kernel_rfl) (by simp) ?_
              refine (AllReadyIn.cons rfl (fun K hK => ?_) AllReadyIn.nil)
              go_simp
              refine hK _ _ ?_
              clear hK K
              refine wpAnyIn_done (by kernel_rfl) ?_ _
              dsimp only [onlyN]
              obtain ⟨sv', A', HN'⟩ := HN9
              clear cV3 cS3 fS3
              gi_wp2
              go_roundw
              case rel => exact ⟨n + 1, sv', A', by omega, by go_num, HN'⟩
              case measure => simp [intOf]; omega
            · go_simp
              refine hK _ _ ?_
              clear hK K
              refine wpAnyIn_ready (rs := [0, 8]) (by kernel_rfl) (by simp) ?_
              refine (AllReadyIn.cons rfl (fun K hK => ?_) (AllReadyIn.cons rfl (fun K hK => ?_) AllReadyIn.nil))
              · go_simp
                refine hK _ _ ?_
                clear hK K
                refine wpAnyIn_ready (rs := [8]) (by kernel_rfl) (by simp) ?_
                refine (AllReadyIn.cons rfl (fun K hK => ?_) AllReadyIn.nil)
                refine stepIn_app1 _ rfl _ _ 58 rfl w.heap.size 22 (.slice none 0 0) 24 Try.underlying58 infoSB rfl _ n (upd A n (.slice (some ⟨wr.heap.size, 0, none⟩) s.size cc)) rfl HO.out W1.heap.size 1 rfl HX.out HON.out (by omega) (by omega) (by omega) ?_
                intro g' cap' w9 ho9 ha9
                obtain ⟨cV3, cS3, fS3, HN9⟩ := HST.out g' cap' w9 ho9 ha9
                clear ho9 ha9
                refine hK _ _ ?_
                clear hK K
                refine wpAnyIn_take (i := 9) (v := ?v76) rfl rfl (by kernel_rfl) (by kernel_rfl) (by kernel_rfl) (fun _ _ _ h => h) ⟨Or.inl ⟨by rfl, ?hy76⟩, fun _ => rfl⟩ ?rest76
                case hy76 => (intro wz; go_simp; try with_reducible rfl)
                refine wpAnyIn_take (i := 10) (v := ?v77) rfl rfl (by kernel_rfl) (by kernel_rfl) (by kernel_rfl) (fun _ _ _ h => h) ⟨Or.inl ⟨by rfl, ?hy77⟩, fun _ => rfl⟩ ?rest77
                case hy77 => (intro wz; go_simp; try with_reducible rfl)
                refine wpAnyIn_ready (rs := [11]) (by kernel_rfl) (by simp) ?_
                refine (AllReadyIn.cons rfl (fun K hK => ?_) AllReadyIn.nil)
                go_simp
                refine hK _ _ ?_
                clear hK K
                refine wpAnyIn_done (by kernel_rfl) ?_ _
                dsimp only [onlyN]
                obtain ⟨sv', A', HN'⟩ := HN9
                clear cV3 cS3 fS3
                gi_wp2
                go_roundw
                case rel => exact ⟨n + 1, sv', A', by omega, by go_num, HN'⟩
                case measure => simp [intOf]; omega
              · refine stepIn_app1 _ rfl _ _ 58 rfl w.heap.size 22 (.slice none 0 0) 24 Try.underlying58 infoSB rfl _ n (upd A n (.slice (some ⟨wr.heap.size, 0, none⟩) s.size cc)) rfl HO.out W1.heap.size 1 rfl HX.out HON.out (by omega) (by omega) (by omega) ?_
                intro g' cap' w9 ho9 ha9
                obtain ⟨cV3, cS3, fS3, HN9⟩ := HST.out g' cap' w9 ho9 ha9
                clear ho9 ha9
                refine hK _ _ ?_
                clear hK K
                refine wpAnyIn_ready (rs := [0]) (by kernel_rfl) (by simp) ?_
                refine (AllReadyIn.cons rfl (fun K hK => ?_) AllReadyIn.nil)
                go_simp
                refine hK _ _ ?_
                clear hK K
                refine wpAnyIn_take (i := 9) (v := ?v78) rfl rfl (by kernel_rfl) (by kernel_rfl) (by kernel_rfl) (fun _ _ _ h => h) ⟨Or.inl ⟨by rfl, ?hy78⟩, fun _ => rfl⟩ ?rest78
                case hy78 => (intro wz; go_simp; try with_reducible rfl)
                refine wpAnyIn_take (i := 10) (v := ?v79) rfl rfl (by kernel_rfl) (by kernel_rfl) (by kernel_rfl) (fun _ _ _ h => h) ⟨Or.inl ⟨by rfl, ?hy79⟩, fun _ => rfl⟩ ?rest79
                case hy79 => (intro wz; go_simp; try with_reducible rfl)
                refine wpAnyIn_ready (rs := [11]) (by kernel_rfl) (by simp) ?_
                refine (AllReadyIn.cons rfl (fun K hK => ?_) AllReadyIn.nil)
                go_simp
                refine hK _ _ ?_
                clear hK K
                refine wpAnyIn_done (by kernel_rfl) ?_ _
                dsimp only [onlyN]
                obtain ⟨sv', A', HN'⟩ := HN9
                clear cV3 cS3 fS3
                gi_wp2
                go_roundw
                case rel => exact ⟨n + 1, sv', A', by omega, by go_num, HN'⟩
                case measure => simp [intOf]; omega
        · go_simp
          refine hK _ _ ?_
          clear hK K
          refine wpAnyIn_ready (rs := [0, 1]) (by kernel_rfl) (by simp) ?_
          refine (AllReadyIn.cons rfl (fun K hK => ?_) (AllReadyIn.cons rfl (fun K hK => ?_) AllReadyIn.nil))
          · go_simp
            refine hK _ _ ?_
            clear hK K
            refine wpAnyIn_ready (rs := [1]) (by kernel_rfl) (by simp) ?_
            refine (AllReadyIn.cons rfl (fun K hK => ?_) AllReadyIn.nil)
            go_simp
            refine hK _ _ ?_
            clear hK K
            refine wpAnyIn_take (i := 2) (v := ?v80) rfl rfl (by kernel_rfl) (by kernel_rfl) (by kernel_rfl) (fun _ _ _ h => h) ⟨Or.inl ⟨by rfl, ?hy80⟩, fun _ => rfl⟩ ?rest80
            case hy80 => (intro wz; go_simp; try with_reducible rfl)
            refine wpAnyIn_take (i := 3) (v := ?v81) rfl rfl (by kernel_rfl) (by kernel_rfl) (by kernel_rfl) (fun _ _ _ h => h) ⟨Or.inl ⟨by rfl, ?hy81⟩, fun _ => rfl⟩ ?rest81
            case hy81 => (intro wz; go_simp; try with_reducible rfl)
            refine wpAnyIn_ready (rs := [4]) (by kernel_rfl) (by simp) ?_
            refine (AllReadyIn.cons rfl (fun K hK => ?_) AllReadyIn.nil)
            go_simp
            refine hK _ _ ?_
            clear hK K
            refine wpAnyIn_ready (rs := [8]) (by kernel_rfl) (by simp) ?_
            refine (AllReadyIn.cons rfl (fun K hK => ?_) AllReadyIn.nil)
            refine stepIn_app1 _ rfl _ _ 58 rfl w.heap.size 22 (.slice none 0 0) 24 Try.underlying58 infoSB rfl _ n (upd A n (.slice (some ⟨wr.heap.size, 0, none⟩) s.size cc)) rfl HO.out W1.heap.size 1 rfl HX.out HON.out (by omega) (by omega) (by omega) ?_
            intro g' cap' w9 ho9 ha9
            obtain ⟨cV3, cS3, fS3, HN9⟩ := HST.out g' cap' w9 ho9 ha9
            clear ho9 ha9
            refine hK _ _ ?_
            clear hK K
            refine wpAnyIn_take (i := 9) (v := ?v82) rfl rfl (by kernel_rfl) (by kernel_rfl) (by kernel_rfl) (fun _ _ _ h => h) ⟨Or.inl ⟨by rfl, ?hy82⟩, fun _ => rfl⟩ ?rest82
            case hy82 => (intro wz; go_simp; try with_reducible rfl)
            refine wpAnyIn_take (i := 10) (v := ?v83) rfl rfl (by kernel_rfl) (by kernel_rfl) (by kernel_rfl) (fun _ _ _ h => h) ⟨Or.inl ⟨by rfl, ?hy83⟩, fun _ => rfl⟩ ?rest83
            case hy83 => (intro wz; go_simp; try with_reducible rfl)
            refine wpAnyIn_ready (rs := [11]) (by kernel_rfl) (by simp) ?_
            refine (AllReadyIn.cons rfl (fun K hK => ?_) AllReadyIn.nil)
            go_simp
            refine hK _ _ ?_
            clear hK K
            refine wpAnyIn_done (by kernel_rfl) ?_ _
            dsimp only [onlyN]
            obtain ⟨sv', A', HN'⟩ := HN9
            clear cV3 cS3 fS3
            gi_wp2
            go_roundw
            case rel => exact ⟨n + 1, sv', A', by omega, by go_num, HN'⟩
            case measure => simp [intOf]; omega
          · go_simp
            refine hK _ _ ?_
            clear hK K
            refine wpAnyIn_take (i := 2) (v := ?v84) rfl rfl (by kernel_rfl) (by kernel_rfl) (by kernel_rfl) (fun _ _ _ h => h) ⟨Or.inl ⟨by rfl, ?hy84⟩, fun _ => rfl⟩ ?rest84
            case hy84 => (intro wz; go_simp; try with_reducible rfl)
            refine wpAnyIn_take (i := 3) (v := ?v85) rfl rfl (by kernel_rfl) (by kernel_rfl) (by kernel_rfl) (fun _ _ _ h => h) ⟨Or.inl ⟨by rfl, ?hy85⟩, fun _ => rfl⟩ ?rest85
            case hy85 => (intro wz; go_simp; try with_reducible rfl)
            refine wpAnyIn_ready (rs := [0, 4]) (by kernel_rfl) (by simp) ?_
            refine (AllReadyIn.cons rfl (fun K hK => ?_) (AllReadyIn.cons rfl (fun K hK => ?_) AllReadyIn.nil))
            · go_simp
              refine hK _ _ ?_
              clear hK K
              refine wpAnyIn_ready (rs := [4]) (by kernel_rfl) (by simp) ?_
              refine (AllReadyIn.cons rfl (fun K hK => ?_) AllReadyIn.nil)
              go_simp
              refine hK _ _ ?_
              clear hK K
              refine wpAnyIn_ready (rs := [8]) (by kernel_rfl) (by simp) ?_
              refine (AllReadyIn.cons rfl (fun K hK => ?_) AllReadyIn.nil)
              refine stepIn_app1 _ rfl _ _ 58 rfl w.heap.size 22 (.slice none 0 0) 24 Try.underlying58 infoSB rfl _ n (upd A n (.slice (some ⟨wr.heap.size, 0, none⟩) s.size cc)) rfl HO.out W1.heap.size 1 rfl HX.out HON.out (by omega) (by omega) (by omega) ?_
              intro g' cap' w9 ho9 ha9
              obtain ⟨cV3, cS3, fS3, HN9⟩ := HST.out g' cap' w9 ho9 ha9
              clear ho9 ha9
              refine hK _ _ ?_
              clear hK K
              refine wpAnyIn_take (i := 9) (v := ?v86) rfl rfl (by kernel_rfl) (by kernel_rfl) (by kernel_rfl) (fun _ _ _ h => h) ⟨Or.inl ⟨by rfl, ?hy86⟩, fun _ => rfl⟩ ?rest86
              case hy86 => (intro wz; go_simp; try with_reducible rfl)
              refine wpAnyIn_take (i := 10) (v := ?v87) rfl rfl (by kernel_rfl) (by kernel_rfl) (by kernel_rfl) (fun _ _ _ h => h) ⟨Or.inl ⟨by rfl, ?hy87⟩, fun _ => rfl⟩ ?rest87
              case hy87 => (intro wz; go_simp; try with_reducible rfl)
              refine wpAnyIn_ready (rs := [11]) (by kernel_rfl) (by simp) ?_
              refine (AllReadyIn.cons rfl (fun K hK => ?_) AllReadyIn.nil)
              go_simp
              refine hK _ _ ?_
              clear hK K
              refine wpAnyIn_done (by kernel_rfl) ?_ _
              dsimp only [onlyN]
              obtain ⟨sv', A', HN'⟩ := HN9
              clear cV3 cS3 fS3
              gi_wp2
              go_roundw
              case rel => exact ⟨n + 1, sv', A', by omega, by go_num, HN'⟩
              case measure => simp [intOf]; omega
            · go_simp
              refine hK _ _ ?_
              clear hK K
              refine wpAnyIn_ready (rs := [0, 8]) (by kernel_rfl) (by simp) ?_
              refine (AllReadyIn.cons rfl (fun K hK => ?_) (AllReadyIn.cons rfl (fun K hK => ?_) AllReadyIn.nil))
              · go_simp
                refine hK _ _ ?_
                clear hK K
                refine wpAnyIn_ready (rs := [8]) (by kernel_rfl) (by simp) ?_
                refine (AllReadyIn.cons rfl (fun K hK => ?_) AllReadyIn.nil)
                refine stepIn_app1 _ rfl _ _ 58 rfl w.heap.size 22 (.slice none 0 0) 24 Try.underlying58 infoSB rfl _ n (upd A n (.slice (some ⟨wr.heap.size, 0, none⟩) s.size cc)) rfl HO.out W1.heap.size 1 rfl HX.out HON.out (by omega) (by omega) (by omega) ?_
                intro g' cap' w9 ho9 ha9
                obtain ⟨cV3, cS3, fS3, HN9⟩ := HST.out g' cap' w9 ho9 ha9
                clear ho9 ha9
                refine hK _ _ ?_
                clear hK K
                refine wpAnyIn_take (i := 9) (v := ?v88) rfl rfl (by kernel_rfl) (by kernel_rfl) (by kernel_rfl) (fun _ _ _ h => h) ⟨Or.inl ⟨by rfl, ?hy88⟩, fun _ => rfl⟩ ?rest88
                case hy88 => (intro wz; go_simp; try with_reducible rfl)
                refine wpAnyIn_take (i := 10) (v := ?v89) rfl rfl (by kernel_rfl) (by kernel_rfl) (by kernel_rfl) (fun _ _ _ h => h) ⟨Or.inl ⟨by rfl, ?hy89⟩, fun _ => rfl⟩ ?rest89
                case hy89 => (intro wz; go_simp; try with_reducible rfl)
                refine wpAnyIn_ready (rs := [11]) (by kernel_rfl) (by simp) ?_
                refine (AllReadyIn.cons rfl (fun K hK => ?_) AllReadyIn.nil)
                go_simp
                refine hK _ _ ?_
                clear hK K
                refine wpAnyIn_done (by kernel_rfl) ?_ _
                dsimp only [onlyN]
                obtain ⟨sv', A', HN'⟩ := HN9
                clear cV3 cS3 fS3
                gi_wp2
                go_roundw
                case rel => exact ⟨n + 1, sv', A', by omega, by go_num, HN'⟩
                case measure => simp [intOf]; omega
              · refine stepIn_app1 _ rfl _ _ 58 rfl w.heap.size 22 (.slice none 0 0) 24 Try.underlying58 infoSB rfl _ n (upd A n (.slice (some ⟨wr.heap.size, 0, none⟩) s.size cc)) rfl HO.out W1.heap.size 1 rfl HX.out HON.out (by omega) (by omega) (by omega) ?_
                intro g' cap' w9 ho9 ha9
                obtain ⟨cV3, cS3, fS3, HN9⟩ := HST.out g' cap' w9 ho9 ha9
                clear ho9 ha9
                refine hK _ _ ?_
                clear hK K
                refine wpAnyIn_ready (rs := [0]) (by kernel_rfl) (by simp) ?_
                refine (AllReadyIn.cons rfl (fun K hK => ?_) AllReadyIn.nil)
                go_simp
                refine hK _ _ ?_
                clear hK K
                refine wpAnyIn_take (i := 9) (v := ?v90) rfl rfl (by kernel_rfl) (by kernel_rfl) (by kernel_rfl) (fun _ _ _ h => h) ⟨Or.inl ⟨by rfl, ?hy90⟩, fun _ => rfl⟩ ?rest90
                case hy90 => (intro wz; go_simp; try with_reducible rfl)
                refine wpAnyIn_take (i := 10) (v := ?v91) rfl rfl (by kernel_rfl) (by kernel_rfl) (by kernel_rfl) (fun _ _ _ h => h) ⟨Or.inl ⟨by rfl, ?hy91⟩, fun _ => rfl⟩ ?rest91
                case hy91 => (intro wz; go_simp; try with_reducible rfl)
                refine wpAnyIn_ready (rs := [11]) (by kernel_rfl) (by simp) ?_
                refine (AllReadyIn.cons rfl (fun K hK => ?_) AllReadyIn.nil)
                go_simp
                refine hK _ _ ?_
                clear hK K
                refine wpAnyIn_done (by kernel_rfl) ?_ _
                dsimp only [onlyN]
                obtain ⟨sv', A', HN'⟩ := HN9
                clear cV3 cS3 fS3
                gi_wp2
                go_roundw
                case rel => exact ⟨n + 1, sv', A', by omega, by go_num, HN'⟩
                case measure => simp [intOf]; omega
    · obtain rfl : n = m := by omega
      obtain ⟨y0, y1⟩ := row2 HN.out.voc
      have hlw := HN.out.low
      have nS := HN.out.gr.own.apart HN.out.row (by decide)
      have nV := HN.out.gr.own.apart HN.out.var (by decide)
      obtain ⟨so', ks, esv, hrot⟩ := HN.out.gr.rot nS nV
      have hSr := HN.out.row
      have hVr := HN.out.var
      have hlo := HN.out.lo
      rw [esv] at hSr
      gi_wp2_with fail
      refine ⟨trivial, ?_⟩
      gi_at_call 25
      refine (callsIn_wide.2 (all_any (HB.out.fresh hlw) (HP.out.fresh hlw))).mono ?_
      rintro e w4 ⟨Ba, rfl, hAll, hBa, hf4⟩
      rcases hAll with ⟨_, v, A4, hT, hcell⟩ | ⟨hn', _⟩
      rotate_left
      · exact absurd HR.out hn'
      obtain ⟨z1, z2, z3⟩ := HR.out.cnt
      have hSl := hSr.lt
      have hVl := hVr.lt
      have hwl := hlw.size
      have h4l := hf4.size
      have hit := all_hands_own (d := d) (N := d.nb + 1 + d.np) (by omega) (by omega) HR.out.len_all hT (n₁ := w4.heap.size) rfl hcell
      have hst : Hid (NwP w w2.heap.size (w2.heap.size + 1) w4.heap.size (fun b => w.heap.size ≤ b ∧ b < wr.heap.size ∧ b ≠ w2.heap.size ∧ b ≠ w2.heap.size + 1) so' n ks f d.pc 0 (.slice none 0 0) (fun _ => undef) w4) :=
        ⟨hSr.of_block (hf4.block _ hSl), hVr.of_block (hf4.block _ hVl), ⟨own_nil _ _ _ _ _, fun i hi => absurd hi (by omega)⟩, (hrot.imp (fun b hb hk => ⟨hk.1, hb, hk.2⟩)).fresh hf4, fresh_trans hlw hf4, Nat.le_refl _⟩
      clear hT hcell y0 y1 HN HN0 hrot q2 hF2
      gi_wp2_with fail
      refine range_hands (gf := 35) (lb := #[.pointer (some ⟨Ba, 0, none⟩)]) rfl (enters_of Try.func35 (by kernel_rfl) rfl) hit KpS.trans (fun W l o o' hl hW hc => ⟨by simp, fun b h1 h2 => put_other _ (by omega)⟩)
        (fun k args W h => by obtain ⟨u, rfl, _⟩ := h; rfl) (fun k args W l o o' hl hW hc h => by obtain ⟨u, e, hP⟩ := h; exact ⟨u, e, Own.putO hW hc hP⟩)
        (fun k W => ∃ pv A, NwP w w2.heap.size (w2.heap.size + 1) w4.heap.size (fun b => w.heap.size ≤ b ∧ b < wr.heap.size ∧ b ≠ w2.heap.size ∧ b ≠ w2.heap.size + 1) so' n ks f d.pc k pv A W)
        (fun _ _ _ => False)
        ?bears ?puts ?putsx ⟨_, _, hst.out⟩
        (fun args => { tmps := #[Value.agg #[Value.slice bo d.nb cb, Value.slice po d.np cp], Value.slice so n cs, Value.pointer (some { block := w.heap.size, off := 0 }), undef, Value.pointer none, Value.int IntKind.i64 0, Value.int IntKind.i64 0, Value.pointer (some { block := w2.heap.size + 1, off := 0 }), undef, u9, undef, args.getD 1 undef, Value.agg #[Value.slice bo d.nb cb, Value.slice po d.np cp], Value.int IntKind.i64 0, Value.int IntKind.i64 0, Value.bool false, undef, Value.slice so n cs, Value.bool true, Value.bool false, Value.agg #[Value.slice none 0 0, Value.slice none 0 0, Value.slice none 0 0, Value.bool false], Value.pointer (some { block := w2.heap.size, off := 0 }), Value.slice so n cs, Value.int IntKind.i64 (n : Int), Value.int IntKind.i64 (n : Int), Value.bool false, u26, u27, u28, u29, u30, u31, u32, u33, u34, u35, u36, u37, u38, u39, Value.agg #[Value.slice bo d.nb cb, Value.slice po d.np cp], Value.func (Fn.func 35) #[] #[Value.pointer (some { block := Ba, off := 0 })], args.getD 0 undef, args.getD 1 undef, undef, undef, undef, undef, undef, undef, undef, undef, undef, undef, undef], defers := [] })
        ?assign ?body ?done ?stop
      case bears =>
        rintro k W W' ⟨pv, A, h⟩ f
        exact ⟨pv, A, h.fresh f⟩
      case puts =>
        rintro k W l o o' hl hW hc ⟨pv, A, h⟩
        exact ⟨pv, A, h.put hW hc (by omega)⟩
      case putsx =>
        rintro id k W l o o' hl hW hc h
        exact h
      case assign =>
        rintro l k args W K ⟨u, rfl, hP⟩ hK
        gi_wp2
        exact hK
      case body =>
        rintro l k args W hk ⟨pv, A, h⟩ ⟨u, rfl, hP⟩
        simp only [show (#[Value.int .i64 (k : Int), u] : Array Value).getD 0 undef = .int .i64 (k : Int) from rfl, show (#[Value.int .i64 (k : Int), u] : Array Value).getD 1 undef = u from rfl]
        obtain ⟨gu, ku, rfl, _⟩ := OwnB.rda hP
        obtain ⟨apv, kpv, epv, _⟩ := h.gr.own.rd
        subst epv
        have fW : Below W.heap.size W (W.alloc (.cells #[.slice gu (d.pc k).length ku] 22)).drew := fresh_trans (fresh_alloc W _) (Below.refl _ _).drew
        have cV0 : W.drew.cell? ⟨w2.heap.size + 1, 0, none⟩ = some (.pointer (some ⟨w2.heap.size, 0, none⟩)) := h.var.cell (i := 0) (by decide)
        have cS0 : W.drew.cell? ⟨w2.heap.size, 0, none⟩ = some (.slice apv k kpv) := h.row.cell (i := 0) (by decide)
        have cV1 : (W.alloc (.cells #[.slice gu (d.pc k).length ku] 22)).cell? ⟨w2.heap.size + 1, 0, none⟩ = some (.pointer (some ⟨w2.heap.size, 0, none⟩)) := fresh_cell fW cV0
        have cS1 : (W.alloc (.cells #[.slice gu (d.pc k).length ku] 22)).cell? ⟨w2.heap.size, 0, none⟩ = some (.slice apv k kpv) := fresh_cell fW cS0
        have HO : Hid (Own (W.alloc (.cells #[.slice gu (d.pc k).length ku] 22)).drew w4.heap.size 22 1 (.slice apv k kpv) k (upd A k (.slice gu (d.pc k).length ku))) := (h.gr.own.kept fW).congr (fun j hj => by rw [upd_lt _ _ (by omega)])
        have HX : Hid ((W.alloc (.cells #[.slice gu (d.pc k).length ku] 22)).drew.cell? ⟨W.heap.size, 0, none⟩ = some (upd A k (.slice gu (d.pc k).length ku) k)) := by
          show _ = _
          rw [upd_at]; exact new_cell W _ _
        have HON : Hid ((upd A k (.slice gu (d.pc k).length ku) k).oneCell' = true) := by show _ = _; rw [upd_at]; rfl
        have HST : Hid (∀ g' cap' w9, Own w9 w4.heap.size 22 1 (.slice (some ⟨g', 0, none⟩) (k + 1) cap') (k + 1) (upd A k (.slice gu (d.pc k).length ku)) → App (W.alloc (.cells #[.slice gu (d.pc k).length ku] 22)).drew w9 (.slice apv k kpv) (.slice (some ⟨g', 0, none⟩) (k + 1) cap') → w9.cell? ⟨w2.heap.size + 1, 0, none⟩ = some (.pointer (some ⟨w2.heap.size, 0, none⟩)) ∧ w9.cell? ⟨w2.heap.size, 0, none⟩ = some (.slice apv k kpv) ∧ w9.frozen? ⟨w2.heap.size, 0, none⟩ = false ∧ Hid (KeepsOthers W (w9.setCell ⟨w2.heap.size, 0, none⟩ (.slice (some ⟨g', 0, none⟩) (k + 1) cap')) ∧ KpS wr.heap.size w4.heap.size W (w9.setCell ⟨w2.heap.size, 0, none⟩ (.slice (some ⟨g', 0, none⟩) (k + 1) cap')) ∧ ∃ pv' A', NwP w w2.heap.size (w2.heap.size + 1) w4.heap.size (fun b => w.heap.size ≤ b ∧ b < wr.heap.size ∧ b ≠ w2.heap.size ∧ b ≠ w2.heap.size + 1) so' n ks f d.pc (k + 1) pv' A' (w9.setCell ⟨w2.heap.size, 0, none⟩ (.slice (some ⟨g', 0, none⟩) (k + 1) cap')))) := fun g' cap' w9 ho9 ha9 => by
          obtain ⟨x1, x2, x3, x4, x5, x6⟩ := NwP.step h (fun b hb => ⟨by omega, hb.2.2.1⟩) (by omega) ⟨by omega, by omega, by omega⟩ fW (Own.kept hP fW) ha9 ho9
          exact ⟨x1, x2, x3, x5, ⟨x5.size, fun b hb1 hb2 => x6 b hb2 (by omega)⟩, _, _, x4⟩
        have hH1w : w4.heap.size ≤ (W.alloc (.cells #[.slice gu (d.pc k).length ku] 22)).drew.heap.size := Nat.le_trans h.n1w fW.size
        have hk64 : k < 64 := by omega
        clear hit h hP fW hst
        gi_upto_region 14 with fail
        refine wpIn_onlyN ?_
        refine wpIn_region_outR (by kernel_rfl) rfl (by kernel_rfl) ?_
        refine wpAnyIn_take (i := 5) (v := ?v92) rfl rfl (by kernel_rfl) (by kernel_rfl) (by kernel_rfl) (fun _ _ _ h => h) ⟨Or.inl ⟨by rfl, ?hy92⟩, fun _ => rfl⟩ ?rest92
        case hy92 => (intro wz; go_simp; try with_reducible rfl)
        refine wpAnyIn_ready (rs := [0, 1, 6]) (by kernel_rfl) (by simp) ?_
        refine (AllReadyIn.cons rfl (fun K hK => ?_) (AllReadyIn.cons rfl (fun K hK => ?_) (AllReadyIn.cons rfl (fun K hK => ?_) AllReadyIn.nil)))
        · go_simp
          refine hK _ _ ?_
          clear hK K
          refine wpAnyIn_ready (rs := [1, 6]) (by kernel_rfl) (by simp) ?_
          refine (AllReadyIn.cons rfl (fun K hK => ?_) (AllReadyIn.cons rfl (fun K hK => ?_) AllReadyIn.nil))
          · go_simp
            refine hK _ _ ?_
            clear hK K
            refine wpAnyIn_take (i := 2) (v := ?v93) rfl rfl (by kernel_rfl) (by kernel_rfl) (by kernel_rfl) (fun _ _ _ h => h) ⟨Or.inl ⟨by rfl, ?hy93⟩, fun _ => rfl⟩ ?rest93
            case hy93 => (intro wz; go_simp; try with_reducible rfl)
            refine wpAnyIn_take (i := 3) (v := ?v94) rfl rfl (by kernel_rfl) (by kernel_rfl) (by kernel_rfl) (fun _ _ _ h => h) ⟨Or.inl ⟨by rfl, ?hy94⟩, fun _ => rfl⟩ ?rest94
            case hy94 => (intro wz; go_simp; try with_reducible rfl)
            refine wpAnyIn_ready (rs := [4, 6]) (by kernel_rfl) (by simp) ?_
            refine (AllReadyIn.cons rfl (fun K hK => ?_) (AllReadyIn.cons rfl (fun K hK => ?_) AllReadyIn.nil))
            · go_simp
              refine hK _ _ ?_
              clear hK K
              refine wpAnyIn_ready (rs := [6]) (by kernel_rfl) (by simp) ?_
              refine (AllReadyIn.cons rfl (fun K hK => ?_) AllReadyIn.nil)
              go_simp
              refine hK _ _ ?_
              clear hK K
              refine wpAnyIn_ready (rs := [7]) (by kernel_rfl) (by simp) ?_
              refine (AllReadyIn.cons rfl (fun K hK => ?_) AllReadyIn.nil)
              refine stepIn_app1 _ rfl _ _ 58 rfl w4.heap.size 22 (.slice none 0 0) 24 Try.underlying58 infoSB rfl _ k (upd A k (.slice gu (d.pc k).length ku)) rfl HO.out W.heap.size 1 rfl HX.out HON.out (by omega) (by omega) (by omega) ?_
              intro g' cap' w9 ho9 ha9
              obtain ⟨cV3, cS3, fS3, HN9⟩ := HST.out g' cap' w9 ho9 ha9
              clear ho9 ha9
              refine hK _ _ ?_
              clear hK K
              refine wpAnyIn_take (i := 8) (v := ?v95) rfl rfl (by kernel_rfl) (by kernel_rfl) (by kernel_rfl) (fun _ _ _ h => h) ⟨Or.inl ⟨by rfl, ?hy95⟩, fun _ => rfl⟩ ?rest95
              case hy95 => (intro wz; go_simp; try with_reducible rfl)
              refine wpAnyIn_take (i := 9) (v := ?v96) rfl rfl (by kernel_rfl) (by kernel_rfl) (by kernel_rfl) (fun _ _ _ h => h) ⟨Or.inl ⟨by rfl, ?hy96⟩, fun _ => rfl⟩ ?rest96
              case hy96 => (intro wz; go_simp; try with_reducible rfl)
              refine wpAnyIn_ready (rs := [10]) (by kernel_rfl) (by simp) ?_
              refine (AllReadyIn.cons rfl (fun K hK => ?_) AllReadyIn.nil)
              go_simp
              refine hK _ _ ?_
              clear hK K
              refine wpAnyIn_done (by kernel_rfl) ?_ _
              dsimp only [onlyN]
              exact HN9.out
            · go_simp
              refine hK _ _ ?_
              clear hK K
              refine wpAnyIn_ready (rs := [4]) (by kernel_rfl) (by simp) ?_
              refine (AllReadyIn.cons rfl (fun K hK => ?_) AllReadyIn.nil)
              go_simp
              refine hK _ _ ?_
              clear hK K
              refine wpAnyIn_ready (rs := [7]) (by kernel_rfl) (by simp) ?_
              refine (AllReadyIn.cons rfl (fun K hK => ?_) AllReadyIn.nil)
              refine stepIn_app1 _ rfl _ _ 58 rfl w4.heap.size 22 (.slice none 0 0) 24 Try.underlying58 infoSB rfl _ k (upd A k (.slice gu (d.pc k).length ku)) rfl HO.out W.heap.size 1 rfl HX.out HON.out (by omega) (by omega) (by omega) ?_
              intro g' cap' w9 ho9 ha9
              obtain ⟨cV3, cS3, fS3, HN9⟩ := HST.out g' cap' w9 ho9 ha9
              clear ho9 ha9
              refine hK _ _ ?_
              clear hK K
              refine wpAnyIn_take (i := 8) (v := ?v97) rfl rfl (by kernel_rfl) (by kernel_rfl) (by kernel_rfl) (fun _ _ _ h => h) ⟨Or.inl ⟨by rfl, ?hy97⟩, fun _ => rfl⟩ ?rest97
              case hy97 => (intro wz; go_simp; try with_reducible rfl)
              refine wpAnyIn_take (i := 9) (v := ?v98) rfl rfl (by kernel_rfl) (by kernel_rfl) (by kernel_rfl) (fun _ _ _ h => h) ⟨Or.inl ⟨by rfl, ?hy98⟩, fun _ => rfl⟩ ?rest98
              case hy98 => (intro wz; go_simp; try with_reducible rfl)
              refine wpAnyIn_ready (rs := [10]) (by kernel_rfl) (by simp) ?_
              refine (AllReadyIn.cons rfl (fun K hK => ?_) AllReadyIn.nil)
              go_simp
              refine hK _ _ ?_
              clear hK K
              refine wpAnyIn_done (by kernel_rfl) ?_ _
              dsimp only [onlyN]
              exact HN9.out
          · go_simp
            refine hK _ _ ?_
            clear hK K
            refine wpAnyIn_ready (rs := [1]) (by kernel_rfl) (by simp) ?_
            refine (AllReadyIn.cons rfl (fun K hK => ?_) AllReadyIn.nil)
            go_simp
            refine hK _ _ ?_
            clear hK K
            refine wpAnyIn_take (i := 2) (v := ?v99) rfl rfl (by kernel_rfl) (by kernel_rfl) (by kernel_rfl) (fun _ _ _ h => h) ⟨Or.inl ⟨by rfl, ?hy99⟩, fun _ => rfl⟩ ?rest99
            case hy99 => (intro wz; go_simp; try with_reducible rfl)
            refine wpAnyIn_take (i := 3) (v := ?v100) rfl rfl (by kernel_rfl) (by kernel_rfl) (by kernel_rfl) (fun _ _ _ h => h) ⟨Or.inl ⟨by rfl, ?hy100⟩, fun _ => rfl⟩ ?rest100
            case hy100 => (intro wz; go_simp; try with_reducible rfl)
            refine wpAnyIn_ready (rs := [4]) (by kernel_rfl) (by simp) ?_
            refine (AllReadyIn.cons rfl (fun K hK => ?_) AllReadyIn.nil)
            go_simp
            refine hK _ _ ?_
            clear hK K
            refine wpAnyIn_ready (rs := [7]) (by kernel_rfl) (by simp) ?_
            refine (AllReadyIn.cons rfl (fun K hK => ?_) AllReadyIn.nil)
            refine stepIn_app1 _ rfl _ _ 58 rfl w4.heap.size 22 (.slice none 0 0) 24 Try.underlying58 infoSB rfl _ k (upd A k (.slice gu (d.pc k).length ku)) rfl HO.out W.heap.size 1 rfl HX.out HON.out (by omega) (by omega) (by omega) ?_
            intro g' cap' w9 ho9 ha9
            obtain ⟨cV3, cS3, fS3, HN9⟩ := HST.out g' cap' w9 ho9 ha9
            clear ho9 ha9
            refine hK _ _ ?_
            clear hK K
            refine wpAnyIn_take (i := 8) (v := ?v101) rfl rfl (by kernel_rfl) (by kernel_rfl) (by kernel_rfl) (fun _ _ _ h => h) ⟨Or.inl ⟨by rfl, ?hy101⟩, fun _ => rfl⟩ ?rest101
            case hy101 => (intro wz; go_simp; try with_reducible rfl)
            refine wpAnyIn_take (i := 9) (v := ?v102) rfl rfl (by kernel_rfl) (by kernel_rfl) (by kernel_rfl) (fun _ _ _ h => h) ⟨Or.inl ⟨by rfl, ?hy102⟩, fun _ => rfl⟩ ?rest102
            case hy102 => (intro wz; go_simp; try with_reducible rfl)
            refine wpAnyIn_ready (rs := [10]) (by kernel_rfl) (by simp) ?_
            refine (AllReadyIn.cons rfl (fun K hK => ?_) AllReadyIn.nil)
            go_simp
            refine hK _ _ ?_
            clear hK K
            refine wpAnyIn_done (by kernel_rfl) ?_ _
            dsimp only [onlyN]
            exact HN9.out
        · go_simp
          refine hK _ _ ?_
          clear hK K
          refine wpAnyIn_take (i := 2) (v := ?v103) rfl rfl (by kernel_rfl) (by kernel_rfl) (by kernel_rfl) (fun _ _ _ h => h) ⟨Or.inl ⟨by rfl, ?hy103⟩, fun _ => rfl⟩ ?rest103
          case hy103 => (intro wz; go_simp; try with_reducible rfl)
          refine wpAnyIn_take (i := 3) (v := ?v104) rfl rfl (by kernel_rfl) (by kernel_rfl) (by kernel_rfl) (fun _ _ _ h => h) ⟨Or.inl ⟨by rfl, ?hy104⟩, fun _ => rfl⟩ ?rest104
          case hy104 => (intro wz; go_simp; try with_reducible rfl)
          refine wpAnyIn_ready (rs := [0, 4, 6]) (by kernel_rfl) (by simp) ?_
          refine (AllReadyIn.cons rfl (fun K hK => ?_) (AllReadyIn.cons rfl (fun K hK => ?_) (AllReadyIn.cons rfl (fun K hK => ?_) AllReadyIn.nil)))
          · go_simp
            refine hK _ _ ?_
            clear hK K
            refine wpAnyIn_ready (rs := [4, 6]) (by kernel_rfl) (by simp) ?_
            refine (AllReadyIn.cons rfl (fun K hK => ?_) (AllReadyIn.cons rfl (fun K hK => ?_) AllReadyIn.nil))
            · go_simp
              refine hK _ _ ?_
              clear hK K
              refine wpAnyIn_ready (rs := [6]) (by kernel_rfl) (by simp) ?_
              refine (AllReadyIn.cons rfl (fun K hK => ?_) AllReadyIn.nil)
              go_simp
              refine hK _ _ ?_
              clear hK K
              refine wpAnyIn_ready (rs := [7]) (by kernel_rfl) (by simp) ?_
              refine (AllReadyIn.cons rfl (fun K hK => ?_) AllReadyIn.nil)
              refine stepIn_app1 _ rfl _ _ 58 rfl w4.heap.size 22 (.slice none 0 0) 24 Try.underlying58 infoSB rfl _ k (upd A k (.slice gu (d.pc k).length ku)) rfl HO.out W.heap.size 1 rfl HX.out HON.out (by omega) (by omega) (by omega) ?_
              intro g' cap' w9 ho9 ha9
              obtain ⟨cV3, cS3, fS3, HN9⟩ := HST.out g' cap' w9 ho9 ha9
              clear ho9 ha9
              refine hK _ _ ?_
              clear hK K
              refine wpAnyIn_take (i := 8) (v := ?v105) rfl rfl (by kernel_rfl) (by kernel_rfl) (by kernel_rfl) (fun _ _ _ h => h) ⟨Or.inl ⟨by rfl, ?hy105⟩, fun _ => rfl⟩ ?rest105
              case hy105 => (intro wz; go_simp; try with_reducible rfl)
              refine wpAnyIn_take (i := 9) (v := ?v106) rfl rfl (by kernel_rfl) (by kernel_rfl) (by kernel_rfl) (fun _ _ _ h => h) ⟨Or.inl ⟨by rfl, ?hy106⟩, fun _ => rfl⟩ ?rest106
              case hy106 => (intro wz; go_simp; try with_reducible rfl)
              refine wpAnyIn_ready (rs := [10]) (by kernel_rfl) (by simp) ?_
              refine (AllReadyIn.cons rfl (fun K hK => ?_) AllReadyIn.nil)
              go_simp
              refine hK _ _ ?_
              clear hK K
              refine wpAnyIn_done (by kernel_rfl) ?_ _
              dsimp only [onlyN]
              exact HN9.out
            · go_simp
              refine hK _ _ ?_
              clear hK K
              refine wpAnyIn_ready (rs := [4]) (by kernel_rfl) (by simp) ?_
              refine (AllReadyIn.cons rfl (fun K hK => ?_) AllReadyIn.nil)
              go_simp
              refine hK _ _ ?_
              clear hK K
              refine wpAnyIn_ready (rs := [7]) (by kernel_rfl) (by simp) ?_
              refine (AllReadyIn.cons rfl (fun K hK => ?_) AllReadyIn.nil)
              refine stepIn_app1 _ rfl _ _ 58 rfl w4.heap.size 22 (.slice none 0 0) 24 Try.underlying58 infoSB rfl _ k (upd A k (.slice gu (d.pc k).length ku)) rfl HO.out W.heap.size 1 rfl HX.out HON.out (by omega) (by omega) (by omega) ?_
              intro g' cap' w9 ho9 ha9
              obtain ⟨cV3, cS3, fS3, HN9⟩ := HST.out g' cap' w9 ho9 ha9
              clear ho9 ha9
              refine hK _ _ ?_
              clear hK K
              refine wpAnyIn_take (i := 8) (v := ?v107) rfl rfl (by kernel_rfl) (by kernel_rfl) (by kernel_rfl) (fun _ _ _ h => h) ⟨Or.inl ⟨by rfl, ?hy107⟩, fun _ => rfl⟩ ?rest107
              case hy107 => (intro wz; go_simp; try with_reducible rfl)
              refine wpAnyIn_take (i := 9) (v := ?v108) rfl rfl (by kernel_rfl) (by kernel_rfl) (by kernel_rfl) (fun _ _ _ h => h) ⟨Or.inl ⟨by rfl, ?hy108⟩, fun _ => rfl⟩ ?rest108
              case hy108 => (intro wz; go_simp; try with_reducible rfl)
              refine wpAnyIn_ready (rs := [10]) (by kernel_rfl) (by simp) ?_
              refine (AllReadyIn.cons rfl (fun K hK => ?_) AllReadyIn.nil)
              go_simp
              refine hK _ _ ?_
              clear hK K
              refine wpAnyIn_done (by kernel_rfl) ?_ _
              dsimp only [onlyN]
              exact HN9.out
          · go_simp
            refine hK _ _ ?_
            clear hK K
            refine wpAnyIn_ready (rs := [0, 6]) (by kernel_rfl) (by simp) ?_
            refine (AllReadyIn.cons rfl (fun K hK => ?_) (AllReadyIn.cons rfl (fun K hK => ?_) AllReadyIn.nil))
            · go_simp
              refine hK _ _ ?_
              clear hK K
              refine wpAnyIn_ready (rs := [6]) (by kernel_rfl) (by simp) ?_
              refine (AllReadyIn.cons rfl (fun K hK => ?_) AllReadyIn.nil)
              go_simp
              refine hK _ _ ?_
              clear hK K
              refine wpAnyIn_ready (rs := [7]) (by kernel_rfl) (by simp) ?_
              refine (AllReadyIn.cons rfl (fun K hK => ?_) AllReadyIn.nil)
              refine stepIn_app1 _ rfl _ _ 58 rfl w4.heap.size 22 (.slice none 0 0) 24 Try.underlying58 infoSB rfl _ k (upd A k (.slice gu (d.pc k).length ku)) rfl HO.out W.heap.size 1 rfl HX.out HON.out (by omega) (by omega) (by omega) ?_
              intro g' cap' w9 ho9 ha9
              obtain ⟨cV3, cS3, fS3, HN9⟩ := HST.out g' cap' w9 ho9 ha9
              clear ho9 ha9
              refine hK _ _ ?_
              clear hK K
              refine wpAnyIn_take (i := 8) (v := ?v109) rfl rfl (by kernel_rfl) (by kernel_rfl) (by kernel_rfl) (fun _ _ _ h => h) ⟨Or.inl ⟨by rfl, ?hy109⟩, fun _ => rfl⟩ ?rest109
              case hy109 => (intro wz; go_simp; try with_reducible rfl)
              refine wpAnyIn_take (i := 9) (v := ?v110) rfl rfl (by kernel_rfl) (by kernel_rfl) (by kernel_rfl) (fun _ _ _ h => h) ⟨Or.inl ⟨by rfl, ?hy110⟩, fun _ => rfl⟩ ?rest110
              case hy110 => (intro wz; go_simp; try with_reducible rfl)
              refine wpAnyIn_ready (rs := [10]) (by kernel_rfl) (by simp) ?_
              refine (AllReadyIn.cons rfl (fun K hK => ?_) AllReadyIn.nil)
              go_simp
              refine hK _ _ ?_
              clear hK K
              refine wpAnyIn_done (by kernel_rfl) ?_ _
              dsimp only [onlyN]
              exact HN9.out
            · go_simp
              refine hK _ _ ?_
              clear hK K
              refine wpAnyIn_ready (rs := [0, 7]) (by kernel_rfl) (by simp) ?_
              refine (AllReadyIn.cons rfl (fun K hK => ?_) (AllReadyIn.cons rfl (fun K hK => ?_) AllReadyIn.nil))
              · go_simp
                refine hK _ _ ?_
                clear hK K
                refine wpAnyIn_ready (rs := [7]) (by kernel_rfl) (by simp) ?_
                refine (AllReadyIn.cons rfl (fun K hK => ?_) AllReadyIn.nil)
                refine stepIn_app1 _ rfl _ _ 58 rfl w4.heap.size 22 (.slice none 0 0) 24 Try.underlying58 infoSB rfl _ k (upd A k (.slice gu (d.pc k).length ku)) rfl HO.out W.heap.size 1 rfl HX.out HON.out (by omega) (by omega) (by omega) ?_
                intro g' cap' w9 ho9 ha9
                obtain ⟨cV3, cS3, fS3, HN9⟩ := HST.out g' cap' w9 ho9 ha9
                clear ho9 ha9
                refine hK _ _ ?_
                clear hK K
                refine wpAnyIn_take (i := 8) (v := ?v111) rfl rfl (by kernel_rfl) (by kernel_rfl) (by kernel_rfl) (fun _ _ _ h => h) ⟨Or.inl ⟨by rfl, ?hy111⟩, fun _ => rfl⟩ ?rest111
                case hy111 => (intro wz; go_simp; try with_reducible rfl)
                refine wpAnyIn_take (i := 9) (v := ?v112) rfl rfl (by kernel_rfl) (by kernel_rfl) (by kernel_rfl) (fun _ _ _ h => h) ⟨Or.inl ⟨by rfl, ?hy112⟩, fun _ => rfl⟩ ?rest112
                case hy112 => (intro wz; go_simp; try with_reducible rfl)
                refine wpAnyIn_ready (rs := [10]) (by kernel_rfl) (by simp) ?_
                refine (AllReadyIn.cons rfl (fun K hK => ?_) AllReadyIn.nil)
                go_simp
                refine hK _ _ ?_
                clear hK K
                refine wpAnyIn_done (by kernel_rfl) ?_ _
                dsimp only [onlyN]
                exact HN9.out
              · refine stepIn_app1 _ rfl _ _ 58 rfl w4.heap.size 22 (.slice none 0 0) 24 Try.underlying58 infoSB rfl _ k (upd A k (.slice gu (d.pc k).length ku)) rfl HO.out W.heap.size 1 rfl HX.out HON.out (by omega) (by omega) (by omega) ?_
                intro g' cap' w9 ho9 ha9
                obtain ⟨cV3, cS3, fS3, HN9⟩ := HST.out g' cap' w9 ho9 ha9
                clear ho9 ha9
                refine hK _ _ ?_
                clear hK K
                refine wpAnyIn_ready (rs := [0]) (by kernel_rfl) (by simp) ?_
                refine (AllReadyIn.cons rfl (fun K hK => ?_) AllReadyIn.nil)
                go_simp
                refine hK _ _ ?_
                clear hK K
                refine wpAnyIn_take (i := 8) (v := ?v113) rfl rfl (by kernel_rfl) (by kernel_rfl) (by kernel_rfl) (fun _ _ _ h => h) ⟨Or.inl ⟨by rfl, ?hy113⟩, fun _ => rfl⟩ ?rest113
                case hy113 => (intro wz; go_simp; try with_reducible rfl)
                refine wpAnyIn_take (i := 9) (v := ?v114) rfl rfl (by kernel_rfl) (by kernel_rfl) (by kernel_rfl) (fun _ _ _ h => h) ⟨Or.inl ⟨by rfl, ?hy114⟩, fun _ => rfl⟩ ?rest114
                case hy114 => (intro wz; go_simp; try with_reducible rfl)
                refine wpAnyIn_ready (rs := [10]) (by kernel_rfl) (by simp) ?_
                refine (AllReadyIn.cons rfl (fun K hK => ?_) AllReadyIn.nil)
                go_simp
                refine hK _ _ ?_
                clear hK K
                refine wpAnyIn_done (by kernel_rfl) ?_ _
                dsimp only [onlyN]
                exact HN9.out
          · go_simp
            refine hK _ _ ?_
            clear hK K
            refine wpAnyIn_ready (rs := [0, 4]) (by kernel_rfl) (by simp) ?_
            refine (AllReadyIn.cons rfl (fun K hK => ?_) (AllReadyIn.cons rfl (fun K hK => ?_) AllReadyIn.nil))
            · go_simp
              refine hK _ _ ?_
              clear hK K
              refine wpAnyIn_ready (rs := [4]) (by kernel_rfl) (by simp) ?_
              refine (AllReadyIn.cons rfl (fun K hK => ?_) AllReadyIn.nil)
              go_simp
              refine hK _ _ ?_
              clear hK K
              refine wpAnyIn_ready (rs := [7]) (by kernel_rfl) (by simp) ?_
              refine (AllReadyIn.cons rfl (fun K hK => ?_) AllReadyIn.nil)
              refine stepIn_app1 _ rfl _ _ 58 rfl w4.heap.size 22 (.slice none 0 0) 24 Try.underlying58 infoSB rfl _ k (upd A k (.slice gu (d.pc k).length ku)) rfl HO.out W.heap.size 1 rfl HX.out HON.out (by omega) (by omega) (by omega) ?_
              intro g' cap' w9 ho9 ha9
              obtain ⟨cV3, cS3, fS3, HN9⟩ := HST.out g' cap' w9 ho9 ha9
              clear ho9 ha9
              refine hK _ _ ?_
              clear hK K
              refine wpAnyIn_take (i := 8) (v := ?v115) rfl rfl (by kernel_rfl) (by kernel_rfl) (by kernel_rfl) (fun _ _ _ h => h) ⟨Or.inl ⟨by rfl, ?hy115⟩, fun _ => rfl⟩ ?rest115
              case hy115 => (intro wz; go_simp; try with_reducible rfl)
              refine wpAnyIn_take (i := 9) (v := ?v116) rfl rfl (by kernel_rfl) (by kernel_rfl) (by kernel_rfl) (fun _ _ _ h => h) ⟨Or.inl ⟨by rfl, ?hy116⟩, fun _ => rfl⟩ ?rest116
              case hy116 => (intro wz; go_simp; try with_reducible rfl)
              refine wpAnyIn_ready (rs := [10]) (by kernel_rfl) (by simp) ?_
              refine (AllReadyIn.cons rfl (fun K hK => ?_) AllReadyIn.nil)
              go_simp
              refine hK _ _ ?_
              clear hK K
              refine wpAnyIn_done (by kernel_rfl) ?_ _
              dsimp only [onlyN]
              exact HN9.out
            · go_simp
              refine hK _ _ ?_
              clear hK K
              refine wpAnyIn_ready (rs := [0, 7]) (by kernel_rfl) (by simp) ?_
              refine (AllReadyIn.cons rfl (fun K hK => ?_) (AllReadyIn.cons rfl (fun K hK => ?_) AllReadyIn.nil))
              · go_simp
                refine hK _ _ ?_
                clear hK K
                refine wpAnyIn_ready (rs := [7]) (by kernel_rfl) (by simp) ?_
                refine (AllReadyIn.cons rfl (fun K hK => ?_) AllReadyIn.nil)
                refine stepIn_app1 _ rfl _ _ 58 rfl w4.heap.size 22 (.slice none 0 0) 24 Try.underlying58 infoSB rfl _ k (upd A k (.slice gu (d.pc k).length ku)) rfl HO.out W.heap.size 1 rfl HX.out HON.out (by omega) (by omega) (by omega) ?_
                intro g' cap' w9 ho9 ha9
                obtain ⟨cV3, cS3, fS3, HN9⟩ := HST.out g' cap' w9 ho9 ha9
                clear ho9 ha9
                refine hK _ _ ?_
                clear hK K
                refine wpAnyIn_take (i := 8) (v := ?v117) rfl rfl (by kernel_rfl) (by kernel_rfl) (by kernel_rfl) (fun _ _ _ h => h) ⟨Or.inl ⟨by rfl, ?hy117⟩, fun _ => rfl⟩ ?rest117
                case hy117 => (intro wz; go_simp; try with_reducible rfl)
                refine wpAnyIn_take (i := 9) (v := ?v118) rfl rfl (by kernel_rfl) (by kernel_rfl) (by kernel_rfl) (fun _ _ _ h => h) ⟨Or.inl ⟨by rfl, ?hy118⟩, fun _ => rfl⟩ ?rest118
                case hy118 => (intro wz; go_simp; try with_reducible rfl)
                refine wpAnyIn_ready (rs := [10]) (by kernel_rfl) (by simp) ?_
                refine (AllReadyIn.cons rfl (fun K hK => ?_) AllReadyIn.nil)
                go_simp
                refine hK _ _ ?_
                clear hK K
                refine wpAnyIn_done (by kernel_rfl) ?_ _
                dsimp only [onlyN]
                exact HN9.out
              · refine stepIn_app1 _ rfl _ _ 58 rfl w4.heap.size 22 (.slice none 0 0) 24 Try.underlying58 infoSB rfl _ k (upd A k (.slice gu (d.pc k).length ku)) rfl HO.out W.heap.size 1 rfl HX.out HON.out (by omega) (by omega) (by omega) ?_
                intro g' cap' w9 ho9 ha9
                obtain ⟨cV3, cS3, fS3, HN9⟩ := HST.out g' cap' w9 ho9 ha9
                clear ho9 ha9
                refine hK _ _ ?_
                clear hK K
                refine wpAnyIn_ready (rs := [0]) (by kernel_rfl) (by simp) ?_
                refine (AllReadyIn.cons rfl (fun K hK => ?_) AllReadyIn.nil)
                go_simp
                refine hK _ _ ?_
                clear hK K
                refine wpAnyIn_take (i := 8) (v := ?v119) rfl rfl (by kernel_rfl) (by kernel_rfl) (by kernel_rfl) (fun _ _ _ h => h) ⟨Or.inl ⟨by rfl, ?hy119⟩, fun _ => rfl⟩ ?rest119
                case hy119 => (intro wz; go_simp; try with_reducible rfl)
                refine wpAnyIn_take (i := 9) (v := ?v120) rfl rfl (by kernel_rfl) (by kernel_rfl) (by kernel_rfl) (fun _ _ _ h => h) ⟨Or.inl ⟨by rfl, ?hy120⟩, fun _ => rfl⟩ ?rest120
                case hy120 => (intro wz; go_simp; try with_reducible rfl)
                refine wpAnyIn_ready (rs := [10]) (by kernel_rfl) (by simp) ?_
                refine (AllReadyIn.cons rfl (fun K hK => ?_) AllReadyIn.nil)
                go_simp
                refine hK _ _ ?_
                clear hK K
                refine wpAnyIn_done (by kernel_rfl) ?_ _
                dsimp only [onlyN]
                exact HN9.out
        · go_simp
          refine hK _ _ ?_
          clear hK K
          refine wpAnyIn_ready (rs := [0, 1]) (by kernel_rfl) (by simp) ?_
          refine (AllReadyIn.cons rfl (fun K hK => ?_) (AllReadyIn.cons rfl (fun K hK => ?_) AllReadyIn.nil))
          · go_simp
            refine hK _ _ ?_
            clear hK K
            refine wpAnyIn_ready (rs := [1]) (by kernel_rfl) (by simp) ?_
            refine (AllReadyIn.cons rfl (fun K hK => ?_) AllReadyIn.nil)
            go_simp
            refine hK _ _ ?_
            clear hK K
            refine wpAnyIn_take (i := 2) (v := ?v121) rfl rfl (by kernel_rfl) (by kernel_rfl) (by kernel_rfl) (fun _ _ _ h => h) ⟨Or.inl ⟨by rfl, ?hy121⟩, fun _ => rfl⟩ ?rest121
            case hy121 => (intro wz; go_simp; try with_reducible rfl)
            refine wpAnyIn_take (i := 3) (v := ?v122) rfl rfl (by kernel_rfl) (by kernel_rfl) (by kernel_rfl) (fun _ _ _ h => h) ⟨Or.inl ⟨by rfl, ?hy122⟩, fun _ => rfl⟩ ?rest122
            case hy122 => (intro wz; go_simp; try with_reducible rfl)
            refine wpAnyIn_ready (rs := [4]) (by kernel_rfl) (by simp) ?_
            refine (AllReadyIn.cons rfl (fun K hK => ?_) AllReadyIn.nil)
            go_simp
            refine hK _ _ ?_
            clear hK K
            refine wpAnyIn_ready (rs := [7]) (by kernel_rfl) (by simp) ?_
            refine (AllReadyIn.cons rfl (fun K hK => ?_) AllReadyIn.nil)
            refine stepIn_app1 _ rfl _ _ 58 rfl w4.heap.size 22 (.slice none 0 0) 24 Try.underlying58 infoSB rfl _ k (upd A k (.slice gu (d.pc k).length ku)) rfl HO.out W.heap.size 1 rfl HX.out HON.out (by omega) (by omega) (by omega) ?_
            intro g' cap' w9 ho9 ha9
            obtain ⟨cV3, cS3, fS3, HN9⟩ := HST.out g' cap' w9 ho9 ha9
            clear ho9 ha9
            refine hK _ _ ?_
            clear hK K
            refine wpAnyIn_take (i := 8) (v := ?v123) rfl rfl (by kernel_rfl) (by kernel_rfl) (by kernel_rfl) (fun _ _ _ h => h) ⟨Or.inl ⟨by rfl, ?hy123⟩, fun _ => rfl⟩ ?rest123
            case hy123 => (intro wz; go_simp; try with_reducible rfl)
            refine wpAnyIn_take (i := 9) (v := ?v124) rfl rfl (by kernel_rfl) (by kernel_rfl) (by kernel_rfl) (fun _ _ _ h => h) ⟨Or.inl ⟨by rfl, ?hy124⟩, fun _ => rfl⟩ ?rest124
            case hy124 => (intro wz; go_simp; try with_reducible rfl)
            refine wpAnyIn_ready (rs := [10]) (by kernel_rfl) (by simp) ?_
            refine (AllReadyIn.cons rfl (fun K hK => ?_) AllReadyIn.nil)
            go_simp
            refine hK _ _ ?_
            clear hK K
            refine wpAnyIn_done (by kernel_rfl) ?_ _
            dsimp only [onlyN]
            exact HN9.out
          · go_simp
            refine hK _ _ ?_
            clear hK K
            refine wpAnyIn_take (i := 2) (v := ?v125) rfl rfl (by kernel_rfl) (by kernel_rfl) (by kernel_rfl) (fun _ _ _ h => h) ⟨Or.inl ⟨by rfl, ?hy125⟩, fun _ => rfl⟩ ?rest125
            case hy125 => (intro wz; go_simp; try with_reducible rfl)
            refine wpAnyIn_take (i := 3) (v := ?v126) rfl rfl (by kernel_rfl) (by kernel_rfl) (by kernel_rfl) (fun _ _ _ h => h) ⟨Or.inl ⟨by rfl, ?hy126⟩, fun _ => rfl⟩ ?rest126
            case hy126 => (intro wz; go_simp; try with_reducible rfl)
            refine wpAnyIn_ready (rs := [0, 4]) (by kernel_rfl) (by simp) ?_
            refine (AllReadyIn.cons rfl (fun K hK => ?_) (AllReadyIn.cons rfl (fun K hK => ?_) AllReadyIn.nil))
            · go_simp
              refine hK _ _ ?_
              clear hK K
              refine wpAnyIn_ready (rs := [4]) (by kernel_rfl) (by simp) ?_
              refine (AllReadyIn.cons rfl (fun K hK => ?_) AllReadyIn.nil)
              go_simp
              refine hK _ _ ?_
              clear hK K
              refine wpAnyIn_ready (rs := [7]) (by kernel_rfl) (by simp) ?_
              refine (AllReadyIn.cons rfl (fun K hK => ?_) AllReadyIn.nil)
              refine stepIn_app1 _ rfl _ _ 58 rfl w4.heap.size 22 (.slice none 0 0) 24 Try.underlying58 infoSB rfl _ k (upd A k (.slice gu (d.pc k).length ku)) rfl HO.out W.heap.size 1 rfl HX.out HON.out (by omega) (by omega) (by omega) ?_
              intro g' cap' w9 ho9 ha9
              obtain ⟨cV3, cS3, fS3, HN9⟩ := HST.out g' cap' w9 ho9 ha9
              clear ho9 ha9
              refine hK _ _ ?_
              clear hK K
              refine wpAnyIn_take (i := 8) (v := ?v127) rfl rfl (by kernel_rfl) (by kernel_rfl) (by kernel_rfl) (fun _ _ _ h => h) ⟨Or.inl ⟨by rfl, ?hy127⟩, fun _ => rfl⟩ ?rest127
              case hy127 => (intro wz; go_simp; try with_reducible rfl)
              refine wpAnyIn_take (i := 9) (v := ?v128) rfl rfl (by kernel_rfl) (by kernel_rfl) (by kernel_rfl) (fun _ _ _ h => h) ⟨Or.inl ⟨by rfl, ?hy128⟩, fun _ => rfl⟩ ?rest128
              case hy128 => (intro wz; go_simp; try with_reducible rfl)
              refine wpAnyIn_ready (rs := [10]) (by kernel_rfl) (by simp) ?_
              refine (AllReadyIn.cons rfl (fun K hK => ?_) AllReadyIn.nil)
              go_simp
              refine hK _ _ ?_
              clear hK K
              refine wpAnyIn_done (by kernel_rfl) ?_ _
              dsimp only [onlyN]
              exact HN9.out
            · go_simp
              refine hK _ _ ?_
              clear hK K
              refine wpAnyIn_ready (rs := [0, 7]) (by kernel_rfl) (by simp) ?_
              refine (AllReadyIn.cons rfl (fun K hK => ?_) (AllReadyIn.cons rfl (fun K hK => ?_) AllReadyIn.nil))
              · go_simp
                refine hK _ _ ?_
                clear hK K
                refine wpAnyIn_ready (rs := [7]) (by kernel_rfl) (by simp) ?_
                refine (AllReadyIn.cons rfl (fun K hK => ?_) AllReadyIn.nil)
                refine stepIn_app1 _ rfl _ _ 58 rfl w4.heap.size 22 (.slice none 0 0) 24 Try.underlying58 infoSB rfl _ k (upd A k (.slice gu (d.pc k).length ku)) rfl HO.out W.heap.size 1 rfl HX.out HON.out (by omega) (by omega) (by omega) ?_
                intro g' cap' w9 ho9 ha9
                obtain ⟨cV3, cS3, fS3, HN9⟩ := HST.out g' cap' w9 ho9 ha9
                clear ho9 ha9
                refine hK _ _ ?_
                clear hK K
                refine wpAnyIn_take (i := 8) (v := ?v129) rfl rfl (by kernel_rfl) (by kernel_rfl) (by kernel_rfl) (fun _ _ _ h => h) ⟨Or.inl ⟨by rfl, ?hy129⟩, fun _ => rfl⟩ ?rest129
                case hy129 => (intro wz; go_simp; try with_reducible rfl)
                refine wpAnyIn_take (i := 9) (v := ?v130) rfl rfl (by kernel_rfl) (by kernel_rfl) (by kernel_rfl) (fun _ _ _ h => h) ⟨Or.inl ⟨by rfl, ?hy130⟩, fun _ => rfl⟩ ?rest130
                case hy130 => (intro wz; go_simp; try with_reducible rfl)
                refine wpAnyIn_ready (rs := [10]) (by kernel_rfl) (by simp) ?_
                refine (AllReadyIn.cons rfl (fun K hK => ?_) AllReadyIn.nil)
                go_simp
                refine hK _ _ ?_
                clear hK K
                refine wpAnyIn_done (by kernel_rfl) ?_ _
                dsimp only [onlyN]
                exact HN9.out
              · refine stepIn_app1 _ rfl _ _ 58 rfl w4.heap.size 22 (.slice none 0 0) 24 Try.underlying58 infoSB rfl _ k (upd A k (.slice gu (d.pc k).length ku)) rfl HO.out W.heap.size 1 rfl HX.out HON.out (by omega) (by omega) (by omega) ?_
                intro g' cap' w9 ho9 ha9
                obtain ⟨cV3, cS3, fS3, HN9⟩ := HST.out g' cap' w9 ho9 ha9
                clear ho9 ha9
                refine hK _ _ ?_
                clear hK K
                refine wpAnyIn_ready (rs := [0]) (by kernel_rfl) (by simp) ?_
                refine (AllReadyIn.cons rfl (fun K hK => ?_) AllReadyIn.nil)
                go_simp
                refine hK _ _ ?_
                clear hK K
                refine wpAnyIn_take (i := 8) (v := ?v131) rfl rfl (by kernel_rfl) (by kernel_rfl) (by kernel_rfl) (fun _ _ _ h => h) ⟨Or.inl ⟨by rfl, ?hy131⟩, fun _ => rfl⟩ ?rest131
                case hy131 => (intro wz; go_simp; try with_reducible rfl)
                refine wpAnyIn_take (i := 9) (v := ?v132) rfl rfl (by kernel_rfl) (by kernel_rfl) (by kernel_rfl) (fun _ _ _ h => h) ⟨Or.inl ⟨by rfl, ?hy132⟩, fun _ => rfl⟩ ?rest132
                case hy132 => (intro wz; go_simp; try with_reducible rfl)
                refine wpAnyIn_ready (rs := [10]) (by kernel_rfl) (by simp) ?_
                refine (AllReadyIn.cons rfl (fun K hK => ?_) AllReadyIn.nil)
                go_simp
                refine hK _ _ ?_
                clear hK K
                refine wpAnyIn_done (by kernel_rfl) ?_ _
                dsimp only [onlyN]
                exact HN9.out
      case done =>
        rintro D W hD ⟨pv, A, h⟩ hW
        have h9 := h.put (ob' := .deferred none) hW rfl (by omega)
        have cV0 : W.cell? ⟨w2.heap.size + 1, 0, none⟩ = some (.pointer (some ⟨w2.heap.size, 0, none⟩)) := h.var.cell (i := 0) (by decide)
        obtain ⟨apv, kpv, epv, hrt⟩ := h9.gr.rot (h9.gr.own.apart h9.row (by decide)) (h9.gr.own.apart h9.var (by decide))
        subst epv
        have hfin : Hid (∃ S K, (Ending.returned (.tuple #[.pointer (some ⟨w2.heap.size, 0, none⟩), .int .i64 0]) : Ending) = .returned (.tuple #[.pointer (some ⟨S, 0, none⟩), .int .i64 0]) ∧ StA (W.putObj D (.deferred none)) S K d (sb.map bys) (.slice none 0 0) [] false ∧ Below w.heap.size w (W.putObj D (.deferred none)) ∧ w.heap.size ≤ S ∧ (∀ b, K b → w.heap.size ≤ b)) := by
          have hsl : (sb.map bys).length = n := by rw [List.length_map]; exact EM.out.symm
          have hzW := h9.n1w
          refine ⟨w2.heap.size, fun b => (w.heap.size ≤ b ∧ b < wr.heap.size ∧ b ≠ w2.heap.size ∧ b ≠ w2.heap.size + 1) ∨ (w4.heap.size ≤ b ∧ b < (W.putObj D (.deferred none)).heap.size), rfl, ⟨⟨⟨apv, kpv, so', ks, ?_, ?_, ?_⟩, ?_, ?_⟩, own_nil _ _ _ _ _, fun b hb => by simp [Value.ownBlock] at hb, by simp [Value.ownBlock]⟩, h9.low, by omega, ?_⟩
          · rw [hsl]; exact h9.row
          · exact hrt.imp (fun b hb hk => .inr ⟨hk.1, hb⟩)
          · rw [hsl]
            have := h9.stp.imp (K' := fun b => (w.heap.size ≤ b ∧ b < wr.heap.size ∧ b ≠ w2.heap.size ∧ b ≠ w2.heap.size + 1) ∨ (w4.heap.size ≤ b ∧ b < (W.putObj D (.deferred none)).heap.size)) (fun b _ hk => .inl hk)
            rw [EF.out] at this
            exact this
          · rintro (hk | hk)
            · exact hk.2.2.1 rfl
            · omega
          · rintro b (hk | hk)
            · omega
            · exact hk.2
          · rintro b (hk | hk)
            · exact hk.1
            · omega
        clear hit h9 hrt h
        gi_wp2
        refine ⟨by simp, .inl ⟨_, _, rfl, run_takeDeferred hW, ?_⟩⟩
        exact ⟨.tuple #[.pointer (some ⟨w2.heap.size, 0, none⟩), .int .i64 0], by simp [results, Try.f11, go_sem], hfin.out⟩
      case stop =>
        rintro D id k W hD hk hx hW
        exact hx.elim
end Go.Proofs.Ytlbmgknlbhakoaa
