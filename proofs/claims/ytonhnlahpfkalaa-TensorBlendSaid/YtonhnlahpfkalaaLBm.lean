import Derived.Test.YtonhnlahpfkalaaLBl2
namespace Go.Proofs.Ytonhnlahpfkalaa
open Go.RowKit
/-! The law TensorBlend: what its numbers are. -/
theorem dot_wgt {nw : Nat} {g x : Nat → Int} {n : Nat} (hn : n ≤ 100) (bx : ∀ i, i < n → -128 ≤ x i ∧ x i ≤ 127) :
    dot (wgt nw g) x n = isum (fun i => wgt nw g i * x i) n ∧ -128 * isum (wgt nw g) n ≤ isum (fun i => wgt nw g i * x i) n ∧ isum (fun i => wgt nw g i * x i) n ≤ 127 * isum (wgt nw g) n := by
  have h1 := isum_wgt nw g n
  have h2 := isum_between (f := wgt nw g) (x := x) (lo := -128) (hi := 127) (n := n) (fun i _ => (wgt_bd nw g i).1) bx
  refine ⟨?_, h2⟩
  unfold dot
  exact wid _ (by omega) (by omega)
theorem bln_between {nw : Nat} {g : Nat → Int} {X : Nat → Nat → Int} {n j : Nat} {lo hi : Int} (h0 : 0 < n) (hn : n ≤ 100) (hs : 1 ≤ tot (wgt nw g) n) (bx : ∀ i, i < n → -128 ≤ X i j ∧ X i j ≤ 127)
    (hb : ∀ i, i < n → (lo ≤ X i j ∨ lo ≤ -127) ∧ X i j ≤ hi ∧ -127 ≤ hi) (hlo : lo ≤ 127) : lo ≤ bln (wgt nw g) X n j ∧ bln (wgt nw g) X n j ≤ hi := by
  obtain ⟨hd, _, _⟩ := dot_wgt (nw := nw) (g := g) (x := fun i => X i j) hn bx
  rw [tot_wgt hn] at hs
  unfold bln
  rw [hd, tot_wgt hn, Fix.dv_gt _ _ (by omega)]
  have hh := hb 0 h0
  have hup := (isum_between (f := wgt nw g) (x := fun i => X i j) (lo := -128) (hi := hi) (n := n) (fun i _ => (wgt_bd nw g i).1) (fun i hi' => ⟨(bx i hi').1, (hb i hi').2.1⟩)).2
  have hq := Int.ediv_le_of_le_mul (show 0 < isum (wgt nw g) n by omega) hup
  generalize hQ : isum (fun i => wgt nw g i * X i j) n / isum (wgt nw g) n = Q at *
  by_cases hl : lo ≤ -127
  · unfold Fix.cl
    split
    · omega
    · split <;> omega
  · have hdn := (isum_between (f := wgt nw g) (x := fun i => X i j) (lo := lo) (hi := hi) (n := n) (fun i _ => (wgt_bd nw g i).1) (fun i hi' => ⟨by have := (hb i hi').1; omega, (hb i hi').2.1⟩)).1
    have hq2 := (Int.le_ediv_iff_mul_le (show 0 < isum (wgt nw g) n by omega)).mpr hdn
    rw [hQ] at hq2
    unfold Fix.cl
    split
    · omega
    · split <;> omega
theorem bln_bd (f : Nat → Int) (X : Nat → Nat → Int) (n j : Nat) : -127 ≤ bln f X n j ∧ bln f X n j ≤ 127 := by
  unfold bln Fix.cl
  split
  · omega
  · split <;> omega
theorem bln_three {nw : Nat} {g : Nat → Int} {X : Nat → Nat → Int} {n j : Nat} (hn : n ≤ 100) (hs : 1 ≤ tot (wgt nw g) n) (bx : ∀ i, i < n → -128 ≤ X i j ∧ X i j ≤ 127) :
    bln (fun i => 3 * wgt nw g i) X n j = bln (wgt nw g) X n j := by
  obtain ⟨hd, h1, h2⟩ := dot_wgt (nw := nw) (g := g) (x := fun i => X i j) hn bx
  have h3 := isum_wgt nw g n
  rw [tot_wgt hn] at hs
  have e1 : dot (fun i => 3 * wgt nw g i) (fun i => X i j) n = 3 * isum (fun i => wgt nw g i * X i j) n := by
    unfold dot
    rw [sum3 (wgt nw g) (fun i => X i j) n]
    exact wid _ (by omega) (by omega)
  have e2 : tot (fun i => 3 * wgt nw g i) n = 3 * isum (wgt nw g) n := by
    unfold tot
    rw [isum_mul]
    exact wid _ (by omega) (by omega)
  unfold bln
  rw [e1, e2, hd, tot_wgt hn, Fix.dv_gt _ _ (by omega), Fix.dv_gt _ _ (by omega), Int.mul_ediv_mul_of_pos _ _ (by decide)]
theorem tot_three {nw : Nat} {g : Nat → Int} {n : Nat} (hn : n ≤ 100) (hs : 1 ≤ tot (wgt nw g) n) : 1 ≤ tot (fun i => 3 * wgt nw g i) n := by
  have h3 := isum_wgt nw g n
  rw [tot_wgt hn] at hs
  have e2 : tot (fun i => 3 * wgt nw g i) n = 3 * isum (wgt nw g) n := by
    unfold tot
    rw [isum_mul]
    exact wid _ (by omega) (by omega)
  omega
theorem tot_moved {f : Nat → Int} {n : Nat} {p : Nat → Nat} (hp : Perm n p) : tot (fun i => f (p i)) n = tot f n := by
  unfold tot
  rw [hp.2 f]
theorem bln_moved {f : Nat → Int} {X : Nat → Nat → Int} {n j : Nat} {p : Nat → Nat} (hp : Perm n p) : bln (fun i => f (p i)) (fun i => X (p i)) n j = bln f X n j := by
  unfold bln
  rw [tot_moved hp, dot_perm (f := f) (g := fun i => X i j) hp]
/-- what the first loop leaves, as lists that are read -/
theorem BR.vs {w1 w : World} {l ww tt : Value} {k L0 : Nat} {V : Nat → Value} {Y : Nat → Nat → Int} {W : Nat → Int} (h : BR w1 w l ww tt k L0 V Y W) :
    ∃ lo lc wo wc to tc A K, l = .slice lo k lc ∧ ww = .slice wo k wc ∧ tt = .slice to k tc ∧ Vs w lo k lc A (fun _ => L0) K Y ∧ RdA w wo 1 k wc (fun i => .int .i64 (W i)) ∧ RdA w to 1 k tc (fun i => .int .i64 (3 * W i)) := by
  obtain ⟨lo, lc, rfl, hl⟩ := h.ol.rd
  obtain ⟨wo, wc, rfl, hw⟩ := h.ow.rd
  obtain ⟨to, tc, rfl, ht⟩ := h.ot.rd
  have hv : ∀ i, ∃ (a : Option Addr) (c : Nat), i < k → V i = .slice a L0 c ∧ RdA w a 1 L0 c (fun j => .int .i8 (Y i j)) := by
    intro i
    by_cases hi : i < k
    · obtain ⟨a, c, e, r⟩ := (h.vec i hi).1.rd
      exact ⟨a, c, fun _ => ⟨e, r⟩⟩
    · exact ⟨none, 0, fun x => absurd x hi⟩
  refine ⟨lo, lc, wo, wc, to, tc, fun i => Classical.choose (hv i), fun i => Classical.choose (Classical.choose_spec (hv i)), rfl, rfl, rfl, ⟨?_, ?_⟩, hw, ht⟩
  · exact hl.congr (fun i hi => (Classical.choose_spec (Classical.choose_spec (hv i)) (by omega)).1)
  · intro i hi
    exact (Classical.choose_spec (Classical.choose_spec (hv i)) hi).2
end Go.Proofs.Ytonhnlahpfkalaa
