import Derived.Test.YteiocgciblogdabVRen
import Derived.Test.YteiocgciblogdabVInt
import Derived.Test.YteiocgciblogdabVStl
import Derived.Deep.DeepCutAuto
namespace Go.Proofs.Yteiocgciblogdab
open Go.RowKit
/-! BpeEncodes. -/
set_option maxRecDepth 20000 in
set_option maxHeartbeats 4000000 in
theorem encodes_walk {w : World} {d : VD} {bo po ko : Option Addr} {cb cp n ck : Nat} {X : Nat → Int} (hb : RdA w bo 1 d.nb cb (fun i => .int .u8 (d.B i))) (hp : RdA w po 2 d.np cp (tcs d.P d.Q)) (hB : ∀ i, i < d.nb → 0 ≤ d.B i ∧ d.B i ≤ 255) (hk : RdA w ko 1 n ck (fun i => .int .u8 (X i))) (hX : ∀ i, i < n → 0 ≤ X i ∧ X i ≤ 255) (n1 : d.nb ≤ 140737488351232) (n2 : d.np ≤ 8796093021952) (hn : n ≤ 1048576) :
    Calls Try.prog 3 #[.agg #[.slice bo d.nb cb, .slice po d.np cp], .slice ko n ck] w fun e w' => e = .returned (.bool true) ∧ Below w.heap.size w w' := by
  obtain ⟨x, l, hx⟩ := d.encOut_some X n
  have HX := hidd hx
  have HB := hidd hB
  have HXb := hidd hX
  clear hx hB hX
  have hf0 := fresh_alloc w (.cells #[.slice bo d.nb cb, .slice po d.np cp] 25)
  have r0 := row2_new w 25 (.slice bo d.nb cb) (.slice po d.np cp)
  go_enter Try.func3, Try.ntmps3
  go_wp2_with fail
  generalize w.alloc (.cells #[.slice bo d.nb cb, .slice po d.np cp] 25) = w1 at *
  refine (twin_any (hb.fresh hf0) (hp.fresh hf0) n1 n2).mono ?_
  rintro e w2 ⟨gb, kb, gp, kp, rfl, hT⟩
  have hF2 := fresh_trans hf0 hT.low
  have r1 := r0.of_block (hT.low.block _ r0.lt)
  have fA := fresh_alloc w2 (.cells #[.slice (some ⟨gb, 0, none⟩) d.nb kb, .slice (some ⟨gp, 0, none⟩) d.np kp] 25)
  have c1 := row2_new w2 25 (.slice (some ⟨gb, 0, none⟩) d.nb kb) (.slice (some ⟨gp, 0, none⟩) d.np kp)
  have r2 := r1.of_block (fA.block _ r1.lt)
  have hT3 := hT.kept fA
  have hF3 := fresh_trans hF2 fA
  go_upto_region 2 with fail
  generalize w2.alloc (.cells #[.slice (some ⟨gb, 0, none⟩) d.nb kb, .slice (some ⟨gp, 0, none⟩) d.np kp] 25) = w3 at *
  generalize w2.heap.size = C at *
  clear r0 r1 hT fA hF2 hf0
  go_wp2_with fail
  refine (copyB_any (hk.fresh hF3) (by omega)).mono ?_
  rintro e w4 ⟨v4, rfl, hO4, hf4⟩
  have hO4' : Own w4 w3.heap.size 5 1 v4 n (fun i => .int .u8 (mk2 n X 193 194 i)) := hO4.congr (fun j hj => by rw [mk2_lo (by omega)])
  have HO4 := hidd (hO4'.kept (fresh_alloc w4 (.cells #[.int .u8 193, .int .u8 194] 5)))
  have NB := hidd (two_marks w4 .u8 5 n X 193 194)
  have hsz4 := hf4.size
  clear hO4 hO4'
  go_wp2_with (at_builtin; refine wpList_app _ rfl _ _ 22 rfl w3.heap.size 5 (.int .u8 0) 1 1 Try.underlying22 infoB rfl (by decide) _ n (fun i => .int .u8 (mk2 n X 193 194 i)) rfl HO4.out _ 2 2 rfl NB.out (fun _ _ => rfl) (by decide) (by unfold maxLen; omega) (by omega) (by simp; omega) ?_)
  intro v5 w5 hO5 happ
  have hf5 := happ.below (hf4.alloc hsz4 _) HO4.out (Nat.le_refl _) (by simp; omega)
  clear happ HO4 NB hf4 hsz4
  obtain ⟨gi, ki, rfl, hgi, hgil, hki1, hki2⟩ := own_some hO5 (by omega)
  have HO5 := hidd hO5
  clear hO5
  have c5 := c1.of_block (hf5.block _ c1.lt)
  have r5 := r2.of_block (hf5.block _ r2.lt)
  have hT5 := hT3.kept hf5
  have hF5 := fresh_trans hF3 hf5
  clear c1 r2 hT3 hF3 hf5
  obtain ⟨x0, x1⟩ := row2 c5
  unfold maxLen at hki2
  have i1 : (0 : Int) ≤ (n : Int) := Int.natCast_nonneg _
  have i2 : (n : Int) ≤ (ki : Int) := by omega
  have rk5 : RdA w5 (some ⟨gi, 0, none⟩) 1 n ki (fun i => .int .u8 (X i)) := (HO5.out.rda.take (by omega)).congr (fun j hj => by rw [mk2_lo (by omega)])
  have hd0 : Below w5.heap.size w5 w5.drew := (Below.refl _ _).drew
  have hK : Hid (Calls Try.prog 7 #[.agg #[.slice (some ⟨gb, 0, none⟩) d.nb kb, .slice (some ⟨gp, 0, none⟩) d.np kp], .slice (some ⟨gi, 0, none⟩) n ki] w5.drew fun e w'' => ∃ v, e = .returned (.tuple #[v, .int .i64 x]) ∧ OwnI w'' w5.heap.size v l ∧ Below w5.heap.size w5 w'') := by
    refine (penc_any (hT5.rb.fresh hd0) (hT5.rp.fresh hd0) HB.out (rk5.fresh hd0) HXb.out hn x l HX.out).mono ?_
    rintro e w'' ⟨v, rfl, h1, h2⟩
    exact ⟨v, rfl, Own.weaken h1 hd0.size, fresh_trans hd0 h2⟩
  have hS : Hid (∀ w', Below w5.heap.size w5 w' → Below w5.heap.size w5 w' ∧ w'.cell? ⟨C, 0, none⟩ = some (.slice (some ⟨gb, 0, none⟩) d.nb kb) ∧ w'.cell? ⟨C, 1, none⟩ = some (.slice (some ⟨gp, 0, none⟩) d.np kp)) := fun w' h => ⟨h, fresh_cell h x0, fresh_cell h x1⟩
  go_upto_region 3 with fail
  go_region_held3 (fun w' => Below w5.heap.size w5 w' ∧ w'.cell? ⟨C, 0, none⟩ = some (.slice (some ⟨gb, 0, none⟩) d.nb kb) ∧ w'.cell? ⟨C, 1, none⟩ = some (.slice (some ⟨gp, 0, none⟩) d.np kp))
    (first
      | (with_reducible refine hS.out _ ?_; with_reducible exact hd0)
      | (with_reducible refine hS.out _ ?_; with_reducible exact hf9)
      | go_keep)
    ((go_at_call 7; have hc := hK.out; with_reducible refine hc.mono ?_; clear hc; rintro e w9 ⟨v9, rfl, hO9, hf9⟩))
  all_goals
    have c9 := c5.of_block (hf9.block _ c5.lt)
    have r9 := r5.of_block (hf9.block _ r5.lt)
    have hT9 := hT5.kept hf9
    have hF9 := fresh_trans hF5 hf9
    have HO9 := hidd (HO5.out.kept hf9)
    obtain ⟨a9, k9, rfl, rd9⟩ := Own.rd hO9
    obtain ⟨y0, y1⟩ := row2 r9
    clear hS hK hd0 x0 x1 c5 r5 hT5 hF5 HO5 rk5 hf9
    go_wp2_with fail
    refine (renc_any (hb.fresh hF9) (hp.fresh hF9) (by omega) (hk.fresh hF9) HXb.out hn x l HX.out).mono ?_
    rintro e w10 ⟨a10, k10, rfl, re10, hf10⟩
    have c10 := c9.of_block (hf10.block _ c9.lt)
    have r10 := r9.of_block (hf10.block _ r9.lt)
    have hT10 := hT9.kept hf10
    have hF10 := fresh_trans hF9 hf10
    have HO10 := hidd (HO9.out.kept hf10)
    have rd10 := rd9.fresh hf10
    clear c9 r9 hT9 hF9 HO9 rd9 y0 y1 hf10
    go_wp2_with fail
    refine (eqInts_same rd10 re10 (fun _ _ => rfl)).mono ?_
    rintro e w11 ⟨rfl, hf11⟩
    have c11 := c10.of_block (hf11.block _ c10.lt)
    have r11 := r10.of_block (hf11.block _ r10.lt)
    have hT11 := hT10.kept hf11
    have hF11 := fresh_trans hF10 hf11
    have HO11 := hidd (HO10.out.kept hf11)
    clear c10 r10 hT10 hF10 HO10 rd10 re10 hf11
    obtain ⟨x0, x1⟩ := row2 c11
    obtain ⟨y0, y1⟩ := row2 r11
    go_wp2_with fail
    refine (still_any hT11 (hb.fresh hF11) (hp.fresh hF11) n1 n2).mono ?_
    rintro e w12 ⟨rfl, hf12⟩
    have hF12 := fresh_trans hF11 hf12
    have HO12 := hidd (HO11.out.kept hf12)
    clear c11 r11 hT11 hF11 HO11 x0 x1 y0 y1 hf12
    have rk12 : RdA w12 (some ⟨gi, 0, none⟩) 1 n ki (fun i => .int .u8 (X i)) := (HO12.out.rda.take (by omega)).congr (fun j hj => by rw [mk2_lo (by omega)])
    go_wp2_with fail
    refine (eqBytes_same rk12 (hk.fresh hF12) (fun _ _ => rfl)).mono ?_
    rintro e w13 ⟨rfl, hf13⟩
    have hF13 := fresh_trans hF12 hf13
    have hO13 := HO12.out.kept hf13
    have m0 : w13.cell? ⟨gi, n, none⟩ = some (.int .u8 193) := by
      obtain ⟨b, o, e, h⟩ := hO13.rda.one (by omega)
      cases e
      have := h n (by omega)
      rw [mk2_0] at this
      simpa using this
    have m1 : w13.cell? ⟨gi, n + 1, none⟩ = some (.int .u8 194) := by
      obtain ⟨b, o, e, h⟩ := hO13.rda.one (by omega)
      cases e
      have := h (n + 1) (by omega)
      rw [mk2_1] at this
      simpa using this
    clear hO13 rk12 hf13 hF12 HO12
    go_wp2
    go_ret
    exact ⟨rfl, hF13⟩
end Go.Proofs.Yteiocgciblogdab
