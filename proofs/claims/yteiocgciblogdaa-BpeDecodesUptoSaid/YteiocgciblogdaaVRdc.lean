import Derived.Test.YteiocgciblogdaaVDec
import Derived.Deep.RegionHeld3
namespace Go.Proofs.Yteiocgciblogdaa
open Go.RowKit
/-! The reference's Decode. -/
set_option maxRecDepth 20000 in
set_option maxHeartbeats 4000000 in
theorem rdec_any {w : World} {d : VD} {bo po ko : Option Addr} {cb cp n ck : Nat} {T : Nat → Int} (hb : RdA w bo 1 d.nb cb (fun i => .int .u8 (d.B i))) (hp : RdA w po 2 d.np cp (tcs d.P d.Q)) (hN : d.np ≤ 8796093022208) (hk : RdA w ko 1 n ck (fun i => .int .i64 (T i))) (hn : n ≤ 1048576) (x : Int) (l : List Int) (hx : d.decOut T n x l) :
    Calls Try.prog 28 #[.agg #[.slice bo d.nb cb, .slice po d.np cp], .slice ko n ck] w fun e w' => ∃ v, e = .returned (.tuple #[v, .int .i64 x]) ∧ OwnB w' w.heap.size v l ∧ Below w.heap.size w w' := by
  have hf0 := fresh_alloc w (.cells #[.slice bo d.nb cb, .slice po d.np cp] 25)
  have r0 := row2_new w 25 (.slice bo d.nb cb) (.slice po d.np cp)
  have HX := hidd hx
  clear hx
  by_cases hR : d.Right
  · obtain ⟨z1, z2, z3⟩ := hR.cnt
    have HR := hidd hR
    obtain ⟨N, eN⟩ : ∃ N, N = d.nb + 1 + d.np := ⟨_, rfl⟩
    have EN := hidd eN
    have hN0 : 0 < N := by omega
    have hN1 : N ≤ 64 := by omega
    have HS := hidd (show d.sized (N : Int) from .inl ⟨hR, by rw [eN]⟩)
    clear hR eN
    go_enter Try.func28, Try.ntmps28
    go_wp2_with fail
    generalize w.alloc (.cells #[.slice bo d.nb cb, .slice po d.np cp] 25) = w1 at *
    refine (rsize_any (hb.fresh hf0) (hp.fresh hf0) hN (N : Int) HS.out).mono ?_
    rintro e w2 ⟨rfl, hf2⟩
    have hNe : ((N : Int) == 0) = false := by simp; omega
    go_wp2
    go_loopw [7, 8] (fun v i wr => ∃ k : Nat, k ≤ n ∧ i = .int .i64 k ∧ Hid (∀ i, i < k → d.good (T i)) ∧ Own wr w1.heap.size 5 1 v (d.dec T k).length (fun j => .int .u8 ((d.dec T k).getD j 0)) ∧ Below w1.heap.size w1 wr) (fun _ i _ => n - (intOf i).toNat)
    case atStart => exact ⟨0, by omega, rfl, (fun i hi => absurd hi (by omega)), own_nil _ _ _ _ _, hf2⟩
    case round =>
      clear hf2
      obtain ⟨k, hkn, rfl, HGd, hO, hfb⟩ := hrel
      have hF := fresh_trans hf0 hfb
      have hsz := hfb.size
      by_cases hlt : k < n
      · obtain ⟨b1, o1, rfl, hc⟩ := (hk.fresh hF).one (by omega)
        have c1 := hc k hlt
        clear hc
        by_cases g1 : T k < 0
        · have e := HX.out
          have hbad : ¬ d.good (T k) := fun h => by have := h.1; omega
          obtain ⟨rfl, rfl⟩ : x = 52 ∧ l = [] := by
            rcases e with ⟨h, _⟩ | ⟨_, _, e1, e2⟩ | ⟨_, h, _⟩
            · exact absurd HR.out h
            · exact ⟨e1, e2⟩
            · exact absurd (h k hlt) hbad
          clear e hbad
          go_wp2
          go_ret2
          exact ⟨_, rfl, ownB_nil _ _, hF⟩
        by_cases g2 : (N : Int) ≤ T k
        · have e := HX.out
          have hbad : ¬ d.good (T k) := fun h => by have := h.2; have := EN.out; omega
          obtain ⟨rfl, rfl⟩ : x = 52 ∧ l = [] := by
            rcases e with ⟨h, _⟩ | ⟨_, _, e1, e2⟩ | ⟨_, h, _⟩
            · exact absurd HR.out h
            · exact ⟨e1, e2⟩
            · exact absurd (h k hlt) hbad
          clear e hbad
          go_wp2
          go_ret2
          exact ⟨_, rfl, ownB_nil _ _, hF⟩
        have GD : Hid (d.good (T k)) := ⟨by omega, by have := EN.out; omega⟩
        obtain ⟨t, eT⟩ : ∃ t : Nat, T k = (t : Int) := ⟨(T k).toNat, by omega⟩
        have HD : Hid (d.dec T (k + 1) = d.dec T k ++ d.pc t) := by show _ = _; simp only [VD.dec, eT]; rfl
        have HL : Hid ((d.dec T (k + 1)).length = (d.dec T k).length + (d.pc t).length) := by show _ = _; rw [HD.out, List.length_append]
        rw [eT] at c1 g1 g2
        clear eT
        have hl1 := VD.dec_len HR.out k HGd.out
        have hl2 := HR.out.len_all t (by have := EN.out; omega)
        have i1 : (0 : Int) ≤ (k : Int) := Int.natCast_nonneg _
        have i2 : (k : Int) < (n : Int) := by omega
        have hr := r0.of_block (hfb.block _ r0.lt)
        obtain ⟨y0, y1⟩ := row2 hr
        have hd0 : Below wr.heap.size wr wr.drew := (Below.refl _ _).drew
        have hK : Hid (Calls Try.prog 34 #[.agg #[.slice bo d.nb cb, .slice po d.np cp], .int .i64 (t : Int)] wr.drew fun e w'' => ∃ v, e = .returned v ∧ OwnB w'' wr.heap.size v (d.pc t) ∧ Below wr.heap.size wr w'') := by
          refine (piece_ref HR.out t (by have := EN.out; omega) wr.drew (hb.fresh (fresh_trans hF hd0)) (hp.fresh (fresh_trans hF hd0))).mono ?_
          rintro e w'' ⟨v, rfl, h1, h2⟩
          exact ⟨v, rfl, Own.weaken h1 hd0.size, fresh_trans hd0 h2⟩
        have hS : Hid (∀ w', Below wr.heap.size wr w' → Below wr.heap.size wr w' ∧ w'.cell? ⟨w.heap.size, 0, none⟩ = some (.slice bo d.nb cb) ∧ w'.cell? ⟨w.heap.size, 1, none⟩ = some (.slice po d.np cp) ∧ w'.cell? ⟨b1, o1 + k, none⟩ = some (.int .i64 (t : Int))) := fun w' h => ⟨h, fresh_cell h y0, fresh_cell h y1, fresh_cell h c1⟩
        go_upto_region 10 with fail
        go_region_held3 (fun w' => Below wr.heap.size wr w' ∧ w'.cell? ⟨w.heap.size, 0, none⟩ = some (.slice bo d.nb cb) ∧ w'.cell? ⟨w.heap.size, 1, none⟩ = some (.slice po d.np cp) ∧ w'.cell? ⟨b1, o1 + k, none⟩ = some (.int .i64 (t : Int)))
          (first
            | (with_reducible refine hS.out _ ?_; with_reducible exact hd0)
            | (with_reducible refine hS.out _ ?_; with_reducible exact hf9)
            | go_keep)
          ((go_at_call 34; have hc := hK.out; with_reducible refine hc.mono ?_; clear hc; rintro e w9 ⟨v9, rfl, hO9, hf9⟩))
        all_goals
          have hO1 : Own w9 w1.heap.size 5 1 _ ((d.dec T k).length + 0) (fun j => .int .u8 ((d.dec T (k + 1)).getD j 0)) := (hO.kept hf9).congr (fun j hj => by rw [HD.out, getD_app_lo (by omega)])
          have hoff := off_own hO hO9
          have hB1 : Own w9 w1.heap.size 5 1 v9 (d.pc t).length (fun j => .int .u8 ((d.pc t).getD j 0)) := Own.weaken hO9 hsz
          have hfb9 := fresh_trans hfb hf9
          obtain ⟨ab, kb, rfl, _⟩ := hB1.rd
          clear hO hO9 hf9 hS hK hd0 y0 y1 c1 hr hfb hF
          obtain ⟨D, eD⟩ : ∃ D, D = (d.dec T k).length := ⟨_, rfl⟩
          rw [← eD] at hO1 hl1 HL
          clear eD
          go_wp2
          go_loopw [7, 10] (fun a i wr => ∃ m : Nat, m ≤ (d.pc t).length ∧ i = .int .i64 m ∧ Own wr w1.heap.size 5 1 a (D + m) (fun j => .int .u8 ((d.dec T (k + 1)).getD j 0)) ∧ Own wr w1.heap.size 5 1 (.slice ab (d.pc t).length kb) (d.pc t).length (fun j => .int .u8 ((d.pc t).getD j 0)) ∧ Off a (.slice ab (d.pc t).length kb) ∧ Below w1.heap.size w1 wr) (fun _ i _ => (d.pc t).length - (intOf i).toNat)
          case atStart => exact ⟨0, by omega, rfl, hO1, hB1, hoff, hfb9⟩
          case round =>
            clear hO1 hB1 hoff hfb9
            obtain ⟨m, hm, rfl, hA, hB, hoff, hf⟩ := hrel
            have hsz := hf.size
            by_cases hltm : m < (d.pc t).length
            · obtain ⟨b5, o5, rfl, hc⟩ := hB.rda.one (by omega)
              have c1 := hc m hltm
              clear hc
              have E : Hid ((d.dec T (k + 1)).getD (D + m) 0 = (d.pc t).getD m 0) := by
                show _ = _
                have e : D = (d.dec T k).length := by have h1 := HL.out; rw [HD.out, List.length_append] at h1; omega
                rw [HD.out, e, getD_app_hi]
              generalize (d.pc t).getD m 0 = X at *
              go_wp2_with (at_builtin; refine wpList_app1 _ rfl _ _ 22 rfl _ 5 (.int .u8 0) 1 Try.underlying22 infoB rfl _ (D + m) _ rfl (hA.kept (fresh_alloc _ _)) _ 1 rfl (new_int _ _ E.out) rfl (by omega) (by omega) (by simp; omega) ?_)
              intro v' w6 hown' happ
              have hf6 := happ.below (hf.alloc hsz _) (hA.kept (fresh_alloc _ _)) (Nat.le_refl _) (by simp; omega)
              have hB6 := happ.own (hB.kept (fresh_alloc _ _)) hoff
              have hoff6 := happ.off (hB.kept (fresh_alloc _ _)) hoff
              clear happ hA hf c1 hB hoff
              go_wp2
              go_roundw
              case rel => exact ⟨m + 1, by omega, by go_num, hown', hB6, hoff6, hf6⟩
              case measure => simp [intOf]; omega
            · have em : m = (d.pc t).length := by omega
              rw [em] at hA
              clear em
              go_wp2
              go_roundw
              case rel => exact ⟨k + 1, by omega, by go_num, (fun i hi => if h : i = k then h ▸ GD.out else HGd.out i (by omega)), by rw [HL.out]; exact hA, hf⟩
              case measure => simp [intOf]; omega
      · obtain rfl : k = n := by omega
        obtain ⟨rfl, rfl⟩ : x = 0 ∧ l = d.dec T k := by
          rcases HX.out with ⟨h, _⟩ | ⟨_, ⟨i, hi, h⟩, _⟩ | ⟨_, _, e1, e2⟩
          · exact absurd HR.out h
          · exact absurd (HGd.out i hi) h
          · exact ⟨e1, e2⟩
        clear HX
        go_wp2
        go_ret2
        exact ⟨_, rfl, Own.weaken hO hf0.size, hF⟩
  · have HR := hidd hR
    obtain ⟨rfl, rfl⟩ : x = 50 ∧ l = [] := by
      rcases HX.out with ⟨_, e1, e2⟩ | ⟨h, _⟩ | ⟨h, _⟩
      · exact ⟨e1, e2⟩
      · exact absurd h hR
      · exact absurd h hR
    clear hR
    go_enter Try.func28, Try.ntmps28
    go_wp2_with fail
    refine (rsize_any (hb.fresh hf0) (hp.fresh hf0) hN 0 (.inr ⟨HR.out, rfl⟩)).mono ?_
    rintro e w2 ⟨rfl, hf2⟩
    have hF := fresh_trans hf0 hf2
    go_wp2
    go_ret2
    exact ⟨_, rfl, ownB_nil _ _, hF⟩
end Go.Proofs.Yteiocgciblogdaa
