import Derived.Test.YtdceahebkohbjabScZ
import Derived.Test.YtdceahebkohbjabScEp
namespace Go.Proofs.Ytdceahebkohbjab
open Go.RowKit
/-! The reference's plan: a Work in memory; least, beyond, free, room. -/
/-- the cells of a Work -/
def wkC (c : Me) (so : Option Addr) (n sc : Nat) (ov : Value) (gv lf : Int) (i : Nat) : Value :=
  if i = 0 then .int .i64 c.bs else if i = 1 then .int .i64 c.bl else if i = 2 then .int .i64 c.bu else if i = 3 then .int .i64 c.ch else if i = 4 then .int .i64 c.tr else if i = 5 then .slice so n sc else if i = 6 then ov else if i = 7 then .int .i64 gv else .int .i64 lf
def WkA (w : World) (g : Nat) (c : Me) (so : Option Addr) (n sc : Nat) (ov : Value) (gv lf : Int) : Prop := w.rowIs g 59 9 (wkC c so n sc ov gv lf)
theorem WkA.fresh {w w' : World} {g : Nat} {c : Me} {so : Option Addr} {n sc : Nat} {ov : Value} {gv lf : Int} (h : WkA w g c so n sc ov gv lf) (f : Below w.heap.size w w') : WkA w' g c so n sc ov gv lf := World.rowIs.of_block h (f.block _ (World.rowIs.lt h))
set_option maxRecDepth 20000 in
theorem rleast_any (w : World) (a b c : Int) : Calls Try.prog 45 #[.int .i64 a, .int .i64 b, .int .i64 c] w fun e w' => e = .returned (.int .i64 (min (min a b) c)) ∧ w' = w := by
  by_cases h1 : b < a
  · by_cases h2 : c < b
    · rw [show min (min a b) c = c by omega]
      go_enter Try.func45, Try.ntmps45
      go_wp2
      go_ret
      exact ⟨rfl, rfl⟩
    · rw [show min (min a b) c = b by omega]
      go_enter Try.func45, Try.ntmps45
      go_wp2
      go_ret
      exact ⟨rfl, rfl⟩
  · by_cases h2 : c < a
    · rw [show min (min a b) c = c by omega]
      go_enter Try.func45, Try.ntmps45
      go_wp2
      go_ret
      exact ⟨rfl, rfl⟩
    · rw [show min (min a b) c = a by omega]
      go_enter Try.func45, Try.ntmps45
      go_wp2
      go_ret
      exact ⟨rfl, rfl⟩
/-- some seat that is not out holds the block -/
def hsR (S : Nat → Se) (n : Nat) (out : Int → Bool) (b : Nat) : Bool := (List.range n).any fun i => !out (S i).id && hasI (S i).H (S i).hn (b : Int)
theorem hsR_iff (S : Nat → Se) (n : Nat) (out : Int → Bool) (b : Nat) : hsR S n out b = true ↔ ∃ i, i < n ∧ out (S i).id = false ∧ hasI (S i).H (S i).hn (b : Int) = true := by
  unfold hsR
  simp
def freR (c : Me) (S : Nat → Se) (n : Nat) (out : Int → Bool) (gv : Int) : Int := c.bs - gv - (cnt (hsR S n out) c.bs.toNat : Int)
set_option maxRecDepth 20000 in
set_option maxHeartbeats 4000000 in
theorem rfree_any {w : World} {g : Nat} {c : Me} {so : Option Addr} {n sc : Nat} {ov : Value} {gv lf : Int} {S : Nat → Se} (hw : WkA w g c so n sc ov gv lf) (hS : SeA w so n sc S) (hn : n ≤ 16) (hb1 : 1 ≤ c.bs) (hb2 : c.bs ≤ 256) (hg : -100000 ≤ gv) (hg2 : gv ≤ 100000) {qo : Option Addr} {k qc : Nat} {Q : Nat → Int} (hQ : RdA w qo 1 k qc (fun i => .int .i64 (Q i))) :
    Calls Try.prog 56 #[.pointer (some ⟨g, 0, none⟩), .slice qo k qc] w fun e w' => e = .returned (.int .i64 (freR c S n (hasI Q k) gv)) ∧ Below w.heap.size w w' := by
  obtain ⟨bn, hbn⟩ : ∃ m : Nat, c.bs = (m : Int) := ⟨c.bs.toNat, by omega⟩
  have HW := hidd hw
  have HS := hidd hS
  have HQ := hidd hQ
  have HC : Hid (∀ z, Below w.heap.size w z → z.cell? ⟨g, 0, none⟩ = some (.int .i64 (bn : Int)) ∧ z.cell? ⟨g, 5, none⟩ = some (.slice so n sc) ∧ z.cell? ⟨g, 7, none⟩ = some (.int .i64 gv)) := fun z hz => by
    have q := HW.out.fresh hz
    have q0 : z.cell? ⟨g, 0, none⟩ = some (.int .i64 c.bs) := World.rowIs.cell q (i := 0) (by decide)
    rw [hbn] at q0
    exact ⟨q0, World.rowIs.cell q (i := 5) (by decide), World.rowIs.cell q (i := 7) (by decide)⟩
  have hbn2 : bn ≤ 256 := by omega
  have HFR : Hid (freR c S n (hasI Q k) gv = (bn : Int) - gv - (cnt (hsR S n (hasI Q k)) bn : Int)) := by show freR c S n (hasI Q k) gv = _; unfold freR; rw [hbn]; simp
  have HAM := hidd (fun (z : World) (hz : Below w.heap.size w z) (x : Int) => ramong_any (HQ.out.fresh hz) x)
  have HAH := hidd (fun (z : World) (hz : Below w.heap.size w z) (i : Nat) (hi : i < n) (x : Int) => ramong_any ((HS.out.hd i hi).fresh hz) x)
  rw [HFR.out]
  clear hw hS hQ HW hbn hb1 hb2 HFR
  obtain ⟨c0, c5, c7⟩ := HC.out w.drew (Below.refl _ w).drew
  go_enter Try.func56, Try.ntmps56
  go_upto_region 1 with fail
  obtain ⟨c0, c5, c7⟩ := HC.out w (Below.refl _ _)
  go_quiet (fail)
  have HD := hidd (fresh_drewN w nq)
  generalize w.drewN nq = w1 at *
  clear c0 c5 c7
  go_wp2
  go_loopw [5, 6] (fun v i wr => ∃ b : Nat, b ≤ bn ∧ i = .int .i64 b ∧ v = .int .i64 ((bn : Int) - gv - (cnt (hsR S n (hasI Q k)) b : Int)) ∧ Hid (Below w.heap.size w wr)) (fun _ i _ => bn - (intOf i).toNat)
  case atStart => exact ⟨0, by omega, rfl, by show Value.int .i64 _ = .int .i64 ((bn : Int) - gv - ((0 : Nat) : Int)); go_num, HD⟩
  case round =>
    obtain ⟨b, hb, rfl, rfl, HB⟩ := hrel
    obtain ⟨c0, c5, c7⟩ := HC.out wr HB.out
    have hcl := cnt_le (hsR S n (hasI Q k)) b
    by_cases hlt : b < bn
    · have k0 : (b : Int) < (bn : Int) := by omega
      have HST : Hid (cnt (hsR S n (hasI Q k)) (b + 1) = cnt (hsR S n (hasI Q k)) b + (if hsR S n (hasI Q k) b then 1 else 0)) := rfl
      generalize cnt (hsR S n (hasI Q k)) b = m0 at *
      generalize wr = w2 at *
      go_wp2
      go_loopw [5, 7] (fun v i wr => ∃ j : Nat, j ≤ n ∧ i = .int .i64 j ∧ v = .int .i64 ((bn : Int) - gv - (m0 : Int)) ∧ Hid (∀ q, q < j → ¬ (hasI Q k (S q).id = false ∧ hasI (S q).H (S q).hn (b : Int) = true)) ∧ Hid (Below w.heap.size w wr)) (fun _ i _ => n - (intOf i).toNat)
      case atStart => exact ⟨0, by omega, rfl, rfl, fun q hq => absurd hq (by omega), HB⟩
      case round =>
        clear HB c0 c5 c7
        obtain ⟨j, hj, rfl, rfl, HN, HB⟩ := hrel
        obtain ⟨c0, c5, c7⟩ := HC.out wr HB.out
        by_cases hjn : j < n
        · obtain ⟨b1, o1, rfl, hc1⟩ := (HS.out.fresh HB.out).rd.seat (by omega)
          obtain ⟨x0, x1, x2, x3, x4⟩ := hc1 j hjn
          have j0 : (0 : Int) ≤ (j : Int) := by omega
          have j1 : (j : Int) < (n : Int) := by omega
          have A1 := hidd (HAM.out wr HB.out (S j).id)
          have A2 := hidd (HAH.out wr HB.out j hjn (b : Int))
          clear hc1 x1 x2 x3
          have HJ : Hid (∀ (p q : Bool), hasI Q k (S j).id = p → hasI (S j).H (S j).hn (b : Int) = q → ¬ (p = false ∧ q = true) → ∀ r, r < j + 1 → ¬ (hasI Q k (S r).id = false ∧ hasI (S r).H (S r).hn (b : Int) = true)) := fun p q hp hq hpq r hr => by
            by_cases e : r = j
            · rw [e, hp, hq]; exact hpq
            · exact HN.out r (by omega)
          have HF : Hid (hasI Q k (S j).id = false → hasI (S j).H (S j).hn (b : Int) = true → hsR S n (hasI Q k) b = true) := fun h1 h2 => (hsR_iff _ _ _ _).2 ⟨j, hjn, h1, h2⟩
          generalize hP : hasI Q k (S j).id = P1 at *
          generalize hR : hasI (S j).H (S j).hn (b : Int) = P2 at *
          have HJ2 := hidd (HJ.out P1 P2 rfl rfl)
          generalize (S j).id = y0 at *
          generalize (S j).ho = yo at *
          generalize (S j).hn = yn at *
          generalize (S j).hc = yc at *
          clear HJ hP hR
          cases P1 with
          | true =>
            go_wp2_with (go_at_call 30; with_reducible refine A1.out.mono ?_; rintro e w3 ⟨rfl, hw⟩; replace hw := hw.symm; subst hw)
            go_roundw
            case rel => exact ⟨j + 1, by omega, by go_num, rfl, hidd (HJ2.out (by simp)), HB⟩
            case measure => simp [intOf]; omega
          | false =>
            cases P2 with
            | false =>
              go_wp2_with (first
                | (go_at_call 30; with_reducible refine A1.out.mono ?_; rintro e w3 ⟨rfl, hw⟩; replace hw := hw.symm; subst hw)
                | (go_at_call 30; with_reducible refine A2.out.mono ?_; rintro e w3 ⟨rfl, hw⟩; replace hw := hw.symm; subst hw))
              go_roundw
              case rel => exact ⟨j + 1, by omega, by go_num, rfl, hidd (HJ2.out (by simp)), HB⟩
              case measure => simp [intOf]; omega
            | true =>
              have HST2 : Hid (cnt (hsR S n (hasI Q k)) (b + 1) = m0 + 1) := by show _ = _; rw [HST.out, HF.out rfl rfl]; simp
              go_wp2_with (first
                | (go_at_call 30; with_reducible refine A1.out.mono ?_; rintro e w3 ⟨rfl, hw⟩; replace hw := hw.symm; subst hw)
                | (go_at_call 30; with_reducible refine A2.out.mono ?_; rintro e w3 ⟨rfl, hw⟩; replace hw := hw.symm; subst hw))
              refine ⟨⟨b + 1, by omega, by go_num, ?_, HB⟩, by simp [intOf]; omega⟩
              rw [HST2.out]
              exact congrArg (Value.int .i64) (by omega)
        · obtain rfl : n = j := by omega
          have HZ : Hid (hsR S n (hasI Q k) b = false) := by
            show hsR S n (hasI Q k) b = false
            rw [Bool.eq_false_iff]
            intro q
            obtain ⟨i, hi, h1, h2⟩ := (hsR_iff _ _ _ _).1 q
            exact HN.out i hi ⟨h1, h2⟩
          have HST2 : Hid (cnt (hsR S n (hasI Q k)) (b + 1) = m0) := by show _ = _; rw [HST.out, HZ.out]; simp
          go_wp2
          go_roundw
          case rel => exact ⟨b + 1, by omega, by go_num, by rw [HST2.out], HB⟩
          case measure => simp [intOf]; omega
    · obtain rfl : b = bn := by omega
      go_wp2
      go_ret
      exact ⟨rfl, HB.out⟩
end Go.Proofs.Ytdceahebkohbjab
