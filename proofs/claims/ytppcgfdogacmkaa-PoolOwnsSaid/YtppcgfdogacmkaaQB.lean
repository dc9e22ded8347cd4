import Derived.Test.YtppcgfdogacmkaaQA
namespace Go.Proofs.Ytppcgfdogacmkaa
open Go.RowKit
/-! Put, Get. -/
/-- W numbers from o on, W behind them -/
def putN (num : Nat → Int) (o W : Nat) (fk fv : Nat → Int) : Nat → Int := fun j => if o ≤ j ∧ j < o + W then fk (j - o) else if o + W ≤ j ∧ j < o + W + W then fv (j - (o + W)) else num j
set_option maxRecDepth 20000 in
set_option maxHeartbeats 1600000 in
theorem put_ok {w : World} {g cb nb L W B S q n T s so l lw : Nat} {cnt : Nat → Nat} {num : Nat → Int} (h : PoolAt w g cb nb L W B S cnt num) (G : Geo L W B S q n T) (hso : so = s * q) (hT : so + q ≤ T) (hlw : lw = l * 2 * W) (hl : lw + 2 * W ≤ q) (hlL : l < L) (hs : s ≤ 9223372036854775807) (hsB : s / S < B) (hsc : cnt (s / S) ≠ 0)
    {ka va : Option Addr} {kc vc : Nat} {fk fv : Nat → Int} (hk : RdA w ka 1 W kc (fun i => .int .i8 (fk i))) (hv : RdA w va 1 W vc (fun i => .int .i8 (fv i))) (hkn : ∀ b off, ka = some ⟨b, off, none⟩ → b ≠ nb) (hvn : ∀ b off, va = some ⟨b, off, none⟩ → b ≠ nb) :
    Calls Try.prog 38 #[.pointer (some ⟨g, 0, none⟩), .int .i64 l, .int .i64 s, .slice ka W kc, .slice va W vc] w fun e w' => e = .returned (.int .i64 0) ∧ PoolAt w' g cb nb L W B S cnt (putN num (so + lw) W fk fv) ∧ Chg w w' (fun b => b = nb) := by
  have H := hidd h
  obtain ⟨c0, c1, c2, c3, c4⟩ := h.cells
  have hW := h.hW
  have HHL := hidd (hasLayer_yes c0 hlL)
  have HUS := hidd (usesSlot_yes h hs hsB hsc)
  have HV := hidd (vectors_any h G hso hT hlw hl)
  have HG := hidd G
  obtain ⟨kb, ko, rfl, hkc⟩ := hk.one (by omega)
  obtain ⟨vb, vo, rfl, hvc⟩ := hv.one (by omega)
  have hkb := hkn kb ko rfl
  have hvb := hvn vb vo rfl
  have HKC := hidd hkc
  have HVC := hidd hvc
  have HROW : Hid (∀ z, Below w.heap.size w z → z.rowIs nb 116 T (fun i => .int .i8 (num i))) := fun z f => by
    have := (H.out.fresh f).nums
    rw [← HG.out.eq, ← HG.out.eT] at this
    exact this
  obtain ⟨o, ho⟩ : ∃ o, o = so + lw := ⟨_, rfl⟩
  have hT1 : o + W ≤ T := by omega
  have hT2 : o + W + W ≤ T := by omega
  rw [← ho] at HV ⊢
  clear h hk hv hkn hvn hkc hvc c0 c2 c3 c4 hT hlw hl hso hsc hsB G ho
  go_enter Try.func38, Try.ntmps38
  go_upto_region 8 with (first
    | (go_at_call 70; with_reducible refine HHL.out.mono ?_; rintro e w9 ⟨rfl, h9⟩; rw [h9]; clear h9)
    | (go_at_call 71; with_reducible refine HUS.out.mono ?_; rintro e w9 ⟨rfl, h9⟩; rw [h9]; clear h9)
    | (go_at_call 72; with_reducible refine HV.out.mono ?_; rintro e w1 ⟨rfl, f1⟩))
  clear HHL HUS HV
  have R1 := hidd (HROW.out _ f1)
  go_upto_region 9 with (refine wpList_copyR rfl _ _ 32 32 rfl 116 Try.underlying32 size8 nb o W _ kb ko W _ W rfl rfl (by simp) 116 T _ R1.out hT1 (fun j => .int .i8 (fk j)) (fun j hj => fresh_cell f1 (HKC.out j hj)) (fun _ _ => rfl) ?_; intro w2 r2 ch2)
  have R2 := hidd r2
  have HC2 := hidd ch2
  have HV2 : Hid (∀ j, j < W → w2.cell? ⟨vb, vo + j, none⟩ = some (.int .i8 (fv j))) := fun j hj => by
    rw [World.cell?_of_block (w := w1) (a := ⟨vb, vo + j, none⟩) (ch2.block vb (lt_of_cell (fresh_cell f1 (HVC.out j hj))) hvb), fresh_cell f1 (HVC.out j hj)]
  clear r2 ch2 R1
  go_wp2_with (refine wpList_copyR rfl _ _ 32 32 rfl 116 Try.underlying32 size8 nb (o + W) W _ vb vo W _ W rfl rfl (by simp) 116 T _ R2.out hT2 (fun j => .int .i8 (fv j)) HV2.out (fun _ _ => rfl) ?_; intro w3 r3 ch3)
  have R3 := hidd r3
  have HC3 := hidd ch3
  clear r3 ch3 R2 HV2
  go_wp2
  go_ret
  have hC : Chg w w3 (fun b => b = nb) := (Chg.pre f1 HC2.out).trans HC3.out (fun _ _ e => e)
  refine ⟨rfl, H.out.set_num hC ?_, hC⟩
  rw [← HG.out.eq, ← HG.out.eT]
  refine R3.out.congr (fun j _ => ?_)
  unfold putN
  by_cases e1 : o + W ≤ j ∧ j < o + W + W
  · rw [if_pos e1, if_neg (by omega), if_pos e1]
  · rw [if_neg e1]
    by_cases e2 : o ≤ j ∧ j < o + W
    · rw [if_pos e2, if_pos e2]
    · rw [if_neg e2, if_neg e2, if_neg e1]
end Go.Proofs.Ytppcgfdogacmkaa
