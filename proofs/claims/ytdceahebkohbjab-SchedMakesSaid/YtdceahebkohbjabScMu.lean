import Derived.Test.YtdceahebkohbjabScMt
namespace Go.Proofs.Ytdceahebkohbjab
open Go.RowKit
set_option maxRecDepth 100000 in
set_option maxHeartbeats 4000000 in
theorem stSeats_any {w0 w : World} {ao : Option Addr} {n cap g : Nat} {S X : Nat → Se} (h : SeA w ao n cap S) (hm : Msd w0 w g S X n (n + 64) (n + 64)) (hn : n * 56 ≤ 140737488351232) (hh : ∀ i, i < n → (S i).hn ≤ 17592186043904) :
    Calls Try.prog 20 #[.slice (some ⟨g, 0, none⟩) n (n + 64), .slice ao n cap] w fun e w' => e = .returned (.bool true) ∧ Below w.heap.size w w' := by
  obtain ⟨c, hc⟩ : ∃ c, c = n + 64 := ⟨_, rfl⟩
  have e1 : (n : Int) + 64 = (c : Int) := by omega
  rw [← hc] at hm ⊢
  have hcn : n ≤ c := by omega
  have hcb : c ≤ 2513169434912 := by omega
  have n0 : (0 : Int) ≤ (c : Int) := by omega
  have HS := hidd h
  have HM := hidd hm
  have HHH := hidd hh
  have HEQ := hidd (fun (z : World) (hz : Below w.heap.size w z) => eqSeats_same ((hm.fresh hz).seats hcn (by unfold maxLen; omega) hh) (h.fresh hz) (fun i hi => (hm.hin i (by omega) hi).1))
  clear h hm hh hc
  go_enter Try.func20, Try.ntmps20
  go_wp2
  go_loopw [6] (fun i wr => ∃ k : Nat, k ≤ c ∧ i = .int .i64 k ∧ Hid (Below w.heap.size w wr)) (fun i _ => c - (intOf i).toNat)
  case atStart => exact ⟨0, by omega, rfl, Below.refl _ _⟩
  case round =>
    obtain ⟨k, hk, rfl, HF⟩ := hrel
    by_cases hlt : k < c
    · have k0 : (0 : Int) ≤ (k : Int) := by omega
      have k1 : (k : Int) < (c : Int) := by omega
      have HR := hidd (HM.out.fresh HF.out).row
      by_cases hkn : k < n
      · have hd : decide ((k : Int) < (n : Int)) = true := by simp; omega
        have hd2 : decide (n ≤ k) = false := by simp; omega
        have k2 : (k : Int) < (n : Int) := by omega
        obtain ⟨e9, b9, h91, h92, h93⟩ := (HM.out.fresh HF.out).hin k hlt hkn
        have y4 := HR.out.cell (i := k * 5 + 4) (by omega)
        rw [seF_at _ _ _ (by omega)] at y4
        have y4' : wr.cell? ⟨g, k * 5 + 4, none⟩ = some (.slice (some ⟨b9, 0, none⟩) (S k).hn ((S k).hn + 64)) := by
          rw [y4, ← er_hn e9, ← h91, er_hn e9, ← h92, ← er_hn e9]
          rfl
        obtain ⟨b1, o1, rfl, h1⟩ := (HS.out.fresh HF.out).rd.seat (by omega)
        obtain ⟨_, _, _, _, x4⟩ := h1 k hkn
        have HST := hidd (fun z : Later wr => still_any (((HS.out.fresh HF.out).hd k hkn).fresh z.fresh) (h93.of_block (z.fresh.block _ h93.lt)) (HHH.out k hkn))
        clear h1 y4 e9 h91 h92 h93 HR
        generalize (S k).hn = zn at *
        generalize (S k).hc = zc at *
        generalize (S k).ho = zo at *
        go_upto_region 7 with fail
        have l4 := later_cell x4
        have m4 := later_cell y4'
        have ne := later_some wr
        refine wp_region_later (by kernel_rfl) (by kernel_rfl) ?_
        repeat (go_big_quiet_step (fail))
        go_big_quiet_step (exact later_of (HST.out _))
        repeat (go_big_quiet_step (fail))
        refine wpQuiet_nil ?_
        rintro _ ⟨z, rfl⟩
        have HF2 := hidd (HF.out.trans (z.fresh.mono HF.out.size))
        clear l4 m4 ne HST x4 y4' HF
        generalize z.val = w3 at *
        go_wp2
        go_roundw
        case rel => exact ⟨k + 1, by omega, by go_num, HF2⟩
        case measure => simp [intOf]; omega
      · have hd : decide ((k : Int) < (n : Int)) = false := by simp; omega
        have hd2 : decide (n ≤ k) = true := by simp; omega
        have eX := HM.out.hout k hlt (by omega)
        have y0 := HR.out.cell (i := k * 5) (by omega)
        have y1 := HR.out.cell (i := k * 5 + 1) (by omega)
        have y4 := HR.out.cell (i := k * 5 + 4) (by omega)
        rw [show k * 5 = k * 5 + 0 from rfl, seF_at _ _ _ (by omega), eX] at y0
        rw [seF_at _ _ _ (by omega), eX] at y1
        rw [seF_at _ _ _ (by omega), eX] at y4
        replace y0 : wr.cell? ⟨g, k * 5, none⟩ = some (.int .i64 (-123456)) := y0
        replace y1 : wr.cell? ⟨g, k * 5 + 1, none⟩ = some (.int .i64 0) := y1
        replace y4 : wr.cell? ⟨g, k * 5 + 4, none⟩ = some (.slice none 0 0) := y4
        clear eX HR
        go_wp2
        go_quiet (fail)
        go_wp2
        go_roundw
        case rel => exact ⟨k + 1, by omega, by go_num, hidd (below_drewN HF.out _)⟩
        case measure => simp [intOf]; omega
    · obtain rfl : c = k := by omega
      have HE := hidd (HEQ.out wr HF.out)
      go_wp2_with (go_at_call 16; with_reducible refine HE.out.mono ?_; rintro e w2 ⟨rfl, hb2⟩)
      go_ret
      exact ⟨rfl, HF.out.trans (hb2.mono HF.out.size)⟩
end Go.Proofs.Ytdceahebkohbjab
