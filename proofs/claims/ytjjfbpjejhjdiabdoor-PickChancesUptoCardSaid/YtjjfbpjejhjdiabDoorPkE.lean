import Derived.Test.YtjjfbpjejhjdiabDoorPkD
import Derived.Deep.RegionHeld3
namespace Go.Proofs.YtjjfbpjejhjdiabDoor
open Go.RowKit
/-! weighted. -/
theorem Holds.below {w w' : World} {n : Nat} (h : Holds w) (f : Below n w w') (hn : 1 < n) : Holds w' := by
  obtain ⟨t, fr, e⟩ := h
  exact ⟨t, fr, (f.block _ hn).trans e⟩
theorem Holds.lt {w : World} (h : Holds w) : 1 < w.heap.size := by
  obtain ⟨t, fr, e⟩ := h
  exact (Array.getElem?_eq_some_iff.1 e).1
theorem Holds.fresh {w w' : World} (h : Holds w) (f : Below w.heap.size w w') : Holds w' := h.below f h.lt
def wfT (temp : Int) (A : List (Int × Int)) (i : Nat) : Int := wt temp (A.getD 0 (0, 0)).2 (A.getD i (0, 0)).2
theorem wf_next {temp : Int} {A : List (Int × Int)} {wf : Nat → Int} {k : Nat} {x : Int} (hx : x = wfT temp A k) (i : Nat) : (if i = k then x else if i < k then wfT temp A i else wf i) = if i < k + 1 then wfT temp A i else wf i := by
  by_cases h : i = k
  · rw [if_pos h, h, if_pos (by omega), hx]
  · rw [if_neg h]
    by_cases q : i < k
    · rw [if_pos q, if_pos (by omega)]
    · rw [if_neg q, if_neg (by omega)]
set_option maxRecDepth 20000 in
set_option maxHeartbeats 3200000 in
theorem weighted_any (p : Prm) (ok : p.Ok) (ht : 0 < p.temp) {w : World} {base c : Nat} {u : Option Addr} {A : List (Int × Int)} {wf : Nat → Int} (h : CL w base u c A wf) (hb : base ≤ w.heap.size) (hH : Holds w) (hG : 1 < base) (hn : A.length ≤ 1048576)
    (hbd : ∀ i, i < A.length → -67108864 ≤ (A.getD i (0, 0)).2 ∧ (A.getD i (0, 0)).2 ≤ 67108864) :
    Calls Tryd.prog 61 #[.agg #[.int .i64 p.temp, .int .i64 p.topk, .int .i64 p.topp, .int .i64 p.pen, .int .u64 (p.seed : Int)], .slice u A.length c] w fun e w' => e = .returned (.slice u A.length c) ∧ CL w' base u c A (wfT p.temp A) ∧ Below base w w' ∧ Gw w w' u := by
  have fr := fresh_alloc w (.cells #[.int .i64 p.temp, .int .i64 p.topk, .int .i64 p.topp, .int .i64 p.pen, .int .u64 (p.seed : Int)] 24)
  have hles := Own.les h
  have t1 := ok.t1
  have h2 := CL.kept h fr
  have hg : ∀ g, u = some ⟨g, 0, none⟩ → g < w.heap.size := fun g e => by subst e; exact (Own.lt h g rfl).2
  have c0 : (w.alloc (.cells #[.int .i64 p.temp, .int .i64 p.topk, .int .i64 p.topp, .int .i64 p.pen, .int .u64 (p.seed : Int)] 24)).cell? ⟨w.heap.size, 0, none⟩ = some (.int .i64 p.temp) := by simp
  have hH2 := hH.fresh fr
  have HB := hidd hbd
  have HG := hidd hg
  have HD : Hid (∀ (z : World) (a : Int), -9223372036854775808 ≤ a → a ≤ 9223372036854775807 → Calls Tryd.prog 54 #[.int .i64 a, .int .i64 p.temp] z fun e w' => e = .returned (.int .i64 (Fix.dv a p.temp)) ∧ w' = z) := fun z a h1 h2 => div_any a p.temp z h1 h2 (by omega) (by omega)
  have HX : Hid (∀ (z : World) (a : Int), Holds z → Calls Tryd.prog 71 #[.int .i64 a] z fun e w' => e = .returned (.int .i64 (Fix.ex a)) ∧ w' = z) := fun z a h1 => exp_any a z h1
  clear h hbd hg hH
  go_enter Tryd.func61, Tryd.ntmps61
  go_wp2
  go_loopw [9] (fun i wr => ∃ k : Nat, k ≤ A.length ∧ i = .int .i64 (k : Int) ∧ Hid (CL wr base u c A (fun i => if i < k then wfT p.temp A i else wf i)) ∧ wr.cell? ⟨w.heap.size, 0, none⟩ = some (.int .i64 p.temp) ∧ Below base w wr ∧ w.heap.size < wr.heap.size ∧ Hid (Holds wr) ∧ Hid (Gw w wr u)) (fun i _ => A.length - (intOf i).toNat)
  case atStart => exact ⟨0, Nat.zero_le _, by simp, CL.congr h2 (fun i _ => by rw [if_neg (by omega)]), c0, fr.mono hb, by simp, hH2, Gw.of_fresh fr⟩
  case round =>
    clear h2 c0 fr hH2
    obtain ⟨k, hk, rfl, HC, ct, hw, hsz, HH, HGW⟩ := hrel
    by_cases hlt : k < A.length
    · obtain ⟨g, rfl, g1, g2, g3, g4⟩ := CL.cells HC.out (by omega)
      have hgl := HG.out g rfl
      obtain ⟨d0, d1, d2⟩ := g3 k hlt
      have z1 := (g3 0 (by omega)).2.1
      rw [Nat.zero_mul, Nat.zero_add] at z1
      have fz := g4 (k * 3 + 2)
      have b1 := HB.out k hlt
      have b2 := HB.out 0 (by omega)
      have HE : Hid (wfT p.temp A k = Fix.ex (Fix.dv (((A.getD k (0, 0)).2 - (A.getD 0 (0, 0)).2) * 16384) p.temp)) := rfl
      clear g3 g4
      generalize (A.getD k (0, 0)).1 = tk at *
      generalize (A.getD k (0, 0)).2 = sk at *
      generalize (A.getD 0 (0, 0)).2 = s0 at *
      generalize (if k < k then wfT p.temp A k else wf k) = wk at *
      have i0 : (0 : Int) ≤ (k : Int) := by omega
      have i1 : (k : Int) < (A.length : Int) := by omega
      have l0 : (0 : Int) < (A.length : Int) := by omega
      have l1 : 0 < A.length := by omega
      have l2 : ¬ A = [] := fun q => by rw [q] at l1; simp at l1
      have w1 : IntKind.i64.wrap (sk - s0) = sk - s0 := by rw [IntKind.wrap_i64]; omega
      have w2 : IntKind.i64.wrap ((sk - s0) * 16384) = (sk - s0) * 16384 := by rw [IntKind.wrap_i64]; omega
      go_wp2
      have e1 := fresh_cell (fresh_alloc wr (.cells #[.int .i64 tk, .int .i64 sk, .int .i64 wk] 70)) ct
      have e2 := fresh_cell (fresh_alloc wr (.cells #[.int .i64 tk, .int .i64 sk, .int .i64 wk] 70)) z1
      have e3 : (wr.alloc (.cells #[.int .i64 tk, .int .i64 sk, .int .i64 wk] 70)).cell? ⟨wr.heap.size, 1, none⟩ = some (.int .i64 sk) := by simp
      have e4 := fresh_cell (fresh_alloc wr (.cells #[.int .i64 tk, .int .i64 sk, .int .i64 wk] 70)) d2
      have e5 : (wr.alloc (.cells #[.int .i64 tk, .int .i64 sk, .int .i64 wk] 70)).frozen? ⟨g, k * 3 + 2, none⟩ = false := ((fresh_alloc wr (.cells #[.int .i64 tk, .int .i64 sk, .int .i64 wk] 70)).frozen (p := ⟨g, k * 3 + 2, none⟩) g2).trans fz
      have HW := hidd (HH.out.fresh (fresh_alloc wr (.cells #[.int .i64 tk, .int .i64 sk, .int .i64 wk] 70)))
      have HC2 := hidd (HC.out.kept (fresh_alloc wr (.cells #[.int .i64 tk, .int .i64 sk, .int .i64 wk] 70)))
      have hw2 := hw.alloc (by omega) (.cells #[.int .i64 tk, .int .i64 sk, .int .i64 wk] 70)
      have HG2 := hidd (HGW.out.alloc (.cells #[.int .i64 tk, .int .i64 sk, .int .i64 wk] 70))
      have hs2 : w.heap.size < (wr.alloc (.cells #[.int .i64 tk, .int .i64 sk, .int .i64 wk] 70)).heap.size := by simp; omega
      clear HC ct hw HH HGW d0 d1 d2 z1 fz
      generalize wr.alloc (.cells #[.int .i64 tk, .int .i64 sk, .int .i64 wk] 70) = W2 at *
      have HWd : Hid (Holds W2.drew) := HW.out
      have e6 : ∀ x, (W2.setCell ⟨g, k * 3 + 2, none⟩ x).cell? ⟨wr.heap.size, 1, none⟩ = some (.int .i64 sk) := fun x => by rw [World.cell?_setCell_other _ _ _ _ (fun q => by have := congrArg Addr.block q; simp at this; omega)]; exact e3
      have e7 : ∀ x, (W2.setCell ⟨g, k * 3 + 2, none⟩ x).cell? ⟨g, 1, none⟩ = some (.int .i64 s0) := fun x => by rw [World.cell?_setCell_other _ _ _ _ (by simp)]; exact e2
      have e8 : ∀ x, (W2.setCell ⟨g, k * 3 + 2, none⟩ x).cell? ⟨w.heap.size, 0, none⟩ = some (.int .i64 p.temp) := fun x => by rw [World.cell?_setCell_other _ _ _ _ (fun q => by have := congrArg Addr.block q; simp at this; omega)]; exact e1
      go_region_held3 (fun z => z.cell? ⟨wr.heap.size, 1, none⟩ = some (.int .i64 sk) ∧ z.cell? ⟨g, 1, none⟩ = some (.int .i64 s0) ∧ z.cell? ⟨w.heap.size, 0, none⟩ = some (.int .i64 p.temp))
        (first | (with_reducible exact ⟨e3, e2, e1⟩) | exact ⟨e6 _, e7 _, e8 _⟩ | go_keep)
        (first
        | (go_at_call 54; with_reducible refine (HD.out _ _ (by omega) (by omega)).mono ?_; rintro e w1 ⟨rfl, h1⟩; rw [h1]; clear h1)
        | (go_at_call 71; with_reducible refine (HX.out _ _ (by first | exact HW.out | exact HWd.out)).mono ?_; rintro e w1 ⟨rfl, h1⟩; rw [h1]; clear h1))
      go_wp2
      go_roundw
      case rel =>
        refine ⟨k + 1, by omega, by go_num, ?_, e8 _, (hw2.setCell g1 _).drew, by simp; omega, ?_, (HG2.out.set _ _).drew⟩
        · show CL (W2.setCell _ _) _ _ _ _ _
          exact (HC2.out.put k _).congr (fun i _ => wf_next HE.out.symm i)
        · show Holds (W2.setCell _ _)
          exact HW.out.below ((Below.refl base W2).setCell g1 _) hG
      case measure => simp [intOf]; omega
    · obtain rfl : k = A.length := by omega
      go_wp2
      go_ret
      exact ⟨rfl, HC.out.congr (fun i hi => by rw [if_pos hi]), hw, HGW.out⟩
end Go.Proofs.YtjjfbpjejhjdiabDoor
