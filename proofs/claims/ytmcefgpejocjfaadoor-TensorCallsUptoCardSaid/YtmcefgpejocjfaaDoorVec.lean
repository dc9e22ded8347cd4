import Derived.Test.YtmcefgpejocjfaaDoorOpd
import Derived.Test.YtmcefgpejocjfaaDoorHeld
import Derived.Deep.RegionLaw
namespace Go.Proofs.YtmcefgpejocjfaaDoor
open Go.RowKit
attribute [local go_sem ↓] Go.wp_at_zero Go.wp_at_succ
/-! The vectors without the marks. -/
theorem infoS8 : (Tryd.prog.info? 26).map (fun i => (i.zero, i.size, i.bytes)) = some (some (.slice none 0 0), 1, 24) := by kernel_rfl
set_option maxRecDepth 20000 in
set_option maxHeartbeats 2000000 in
theorem vectors_any {w : World} {o : OpD} {i : InD} (hI : InR w i o) (hR : OpR w o) :
    Calls Tryd.prog 10 #[.agg #[.slice i.aO (o.nA + 64) i.cA, .slice i.bO (o.nB + 64) i.cB, .slice i.dO (o.nD + 64) i.cD, .slice i.xO (o.nX + 64) i.cX, .slice i.tO (o.nT + 64) i.cT, .slice i.vO o.nV i.cV], .agg #[.int .i64 o.kind, .int .i64 o.R, .int .i64 o.C, .slice o.dO o.nD o.cD, .slice o.aO o.nA o.cA, .slice o.bO o.nB o.cB, .slice o.xO o.nX o.cX, .slice o.vO o.nV o.cV, .slice o.tO o.nT o.cT, .int .i64 o.N]] w fun e w' => ∃ vo cv, e = .returned (.slice vo o.nV cv) ∧ Vs w' vo o.nV cv i.Va o.Vl i.Vk o.Vx ∧ Below w.heap.size w w' := by
  have HI := hidd hI
  have HR := hidd hR
  have hnV := hR.sV
  clear hI hR
  go_enter Tryd.func10, Tryd.ntmps10
  go_wp2
  have hf0 := fresh_trans (fresh_alloc w (.cells #[.slice i.aO (o.nA + 64) i.cA, .slice i.bO (o.nB + 64) i.cB, .slice i.dO (o.nD + 64) i.cD, .slice i.xO (o.nX + 64) i.cX, .slice i.tO (o.nT + 64) i.cT, .slice i.vO o.nV i.cV] 41)) (fresh_alloc _ (.cells #[.int .i64 o.kind, .int .i64 o.R, .int .i64 o.C, .slice o.dO o.nD o.cD, .slice o.aO o.nA o.cA, .slice o.bO o.nB o.cB, .slice o.xO o.nX o.cX, .slice o.vO o.nV o.cV, .slice o.tO o.nT o.cT, .int .i64 o.N] 33))
  have K1 := hidd (show ((w.alloc (.cells #[.slice i.aO (o.nA + 64) i.cA, .slice i.bO (o.nB + 64) i.cB, .slice i.dO (o.nD + 64) i.cD, .slice i.xO (o.nX + 64) i.cX, .slice i.tO (o.nT + 64) i.cT, .slice i.vO o.nV i.cV] 41)).alloc (.cells #[.int .i64 o.kind, .int .i64 o.R, .int .i64 o.C, .slice o.dO o.nD o.cD, .slice o.aO o.nA o.cA, .slice o.bO o.nB o.cB, .slice o.xO o.nX o.cX, .slice o.vO o.nV o.cV, .slice o.tO o.nT o.cT, .int .i64 o.N] 33)).cell? ⟨w.heap.size, 5, none⟩ = some (.slice i.vO o.nV i.cV) by simp)
  have K2 := hidd (show ((w.alloc (.cells #[.slice i.aO (o.nA + 64) i.cA, .slice i.bO (o.nB + 64) i.cB, .slice i.dO (o.nD + 64) i.cD, .slice i.xO (o.nX + 64) i.cX, .slice i.tO (o.nT + 64) i.cT, .slice i.vO o.nV i.cV] 41)).alloc (.cells #[.int .i64 o.kind, .int .i64 o.R, .int .i64 o.C, .slice o.dO o.nD o.cD, .slice o.aO o.nA o.cA, .slice o.bO o.nB o.cB, .slice o.xO o.nX o.cX, .slice o.vO o.nV o.cV, .slice o.tO o.nT o.cT, .int .i64 o.N] 33)).cell? ⟨w.heap.size + 1, 7, none⟩ = some (.slice o.vO o.nV o.cV) by simp)
  generalize (w.alloc (.cells #[.slice i.aO (o.nA + 64) i.cA, .slice i.bO (o.nB + 64) i.cB, .slice i.dO (o.nD + 64) i.cD, .slice i.xO (o.nX + 64) i.cX, .slice i.tO (o.nT + 64) i.cT, .slice i.vO o.nV i.cV] 41)).alloc (.cells #[.int .i64 o.kind, .int .i64 o.R, .int .i64 o.C, .slice o.dO o.nD o.cD, .slice o.aO o.nA o.cA, .slice o.bO o.nB o.cB, .slice o.xO o.nX o.cX, .slice o.vO o.nV o.cV, .slice o.tO o.nT o.cT, .int .i64 o.N] 33) = w1 at *
  go_loopw [5, 6] (fun v j wr => ∃ k : Nat, k ≤ o.nV ∧ j = .int .i64 k ∧ Own wr w1.heap.size 26 1 v k (fun j => .slice (i.Va j) (o.Vl j) (i.Vk j)) ∧ Below w1.heap.size w1 wr) (fun _ j _ => o.nV - (intOf j).toNat)
  case atStart => exact ⟨0, by omega, rfl, own_nil _ _ _ _ _, Below.refl _ _⟩
  case round =>
    obtain ⟨k, hk, rfl, hown, hfb⟩ := hrel
    have hf := fresh_trans hf0 hfb
    have k1 := fresh_cell hfb K1.out
    have k2 := fresh_cell hfb K2.out
    have hsz := hfb.size
    by_cases hlt : k < o.nV
    · obtain ⟨rb, ro, hra, _⟩ := ((HI.out.v.row k hlt).fresh hf).one (by omega)
      have hle := (HI.out.v.row k hlt).le
      have htp := (HI.out.v.row k hlt).top
      obtain ⟨vb, vf, hva, h1⟩ := (HI.out.v.top.fresh hf).one (by omega)
      obtain ⟨ob, of, hoa, h2⟩ := (HR.out.v.top.fresh hf).one (by omega)
      have c1 := h1 k hlt
      have c2 := h2 k hlt
      have E := hidd hra
      rw [hra] at c1
      rw [hva] at k1
      rw [hoa] at k2
      have hL1 : 0 ≤ (o.Vl k : Int) := Int.natCast_nonneg _
      have hL2 : (o.Vl k : Int) ≤ (i.Vk k : Int) := by omega
      have i1 : (0 : Int) ≤ (k : Int) := Int.natCast_nonneg _
      have i2 : (k : Int) < (o.nV : Int) := by omega
      have hnew : Hid (∀ (w0 : World) (t : TypeId), (w0.alloc (.cells #[.slice (some ⟨rb, ro, none⟩) (o.Vl k) (i.Vk k)] t)).cell? ⟨w0.heap.size, 0, none⟩ = some ((fun j => Value.slice (i.Va j) (o.Vl j) (i.Vk j)) k)) := fun w0 t => by
        rw [new_cell, ← hra]
      clear h1 h2 hra htp hva hoa
      obtain ⟨na, nc, rfl, _⟩ := hown.rd'
      go_wp2
      go_region_law ((refine step_app1 _ (by rfl) _ _ _ (by rfl) w1.heap.size 26 (.slice none 0 0) 24 Tryd.underlying30 infoS8 rfl _ k (fun j => .slice (i.Va j) (o.Vl j) (i.Vk j)) (by rfl) ((hown.kept (fresh_alloc _ _)).kept (Below.refl _ _).drew) wr.heap.size 1 (by rfl) (hnew.out wr 26) rfl (by omega) (by omega) (by simp; omega) ?_; intro g' cap' w9 hown' happ))
      all_goals
        have hf9 := happ.below ((hfb.alloc hsz _).drew) ((hown.kept (fresh_alloc _ _)).kept (Below.refl _ _).drew) (Nat.le_refl _) (by simp; omega)
        clear happ c1 c2 k1 k2 hown hfb hf hnew
        go_wp2
        go_roundw
        case rel => exact ⟨k + 1, by omega, by go_num, hown', hf9⟩
        case measure => simp [intOf]; omega
    · have hkn : k = o.nV := by omega
      rw [hkn] at hown
      obtain ⟨na, nc, rfl, hr⟩ := hown.rd'
      clear hkn
      go_wp2
      go_ret
      exact ⟨na, nc, rfl, ⟨hr, fun j hj => short_mkd ((HI.out.v.row j hj).fresh hf)⟩, hf⟩
end Go.Proofs.YtmcefgpejocjfaaDoor
