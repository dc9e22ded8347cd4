import Derived.Test.YtdceahebkohbjabScD
import Derived.Deep.MidRow
namespace Go.Proofs.Ytdceahebkohbjab
open Go.RowKit
/-! The desk in memory; free, room. -/
def dkF (c : Me) (sv : Value) (out : Nat → Bool) (left given : Int) (vO vZ : Value) (j : Nat) : Value :=
  if j = 0 then .int .i64 c.bs else if j = 1 then .int .i64 c.bl else if j = 2 then .int .i64 c.bu else if j = 3 then .int .i64 c.ch else if j = 4 then .int .i64 c.tr else
  if j = 5 then sv else if j < 22 then .bool (out (j - 6)) else if j = 22 then .int .i64 left else if j = 23 then .int .i64 given else if j = 24 then vO else vZ
def DkA (w : World) (b : Nat) (c : Me) (sv : Value) (out : Nat → Bool) (left given : Int) (vO vZ : Value) : Prop := w.rowIs b 53 26 (dkF c sv out left given vO vZ)
structure DkC (w : World) (b : Nat) (c : Me) (sv : Value) (out : Nat → Bool) (left given : Int) (vO vZ : Value) : Prop where
  c0 : w.cell? ⟨b, 0, none⟩ = some (.int .i64 c.bs)
  c1 : w.cell? ⟨b, 1, none⟩ = some (.int .i64 c.bl)
  c2 : w.cell? ⟨b, 2, none⟩ = some (.int .i64 c.bu)
  c3 : w.cell? ⟨b, 3, none⟩ = some (.int .i64 c.ch)
  c4 : w.cell? ⟨b, 4, none⟩ = some (.int .i64 c.tr)
  c5 : w.cell? ⟨b, 5, none⟩ = some sv
  co : ∀ i, i < 16 → w.cell? ⟨b, 6 + i, none⟩ = some (.bool (out i))
  c22 : w.cell? ⟨b, 22, none⟩ = some (.int .i64 left)
  c23 : w.cell? ⟨b, 23, none⟩ = some (.int .i64 given)
  c24 : w.cell? ⟨b, 24, none⟩ = some vO
  c25 : w.cell? ⟨b, 25, none⟩ = some vZ
  fr : ∀ i, w.frozen? ⟨b, i, none⟩ = false
theorem DkA.cells {w : World} {b : Nat} {c : Me} {sv : Value} {out : Nat → Bool} {left given : Int} {vO vZ : Value} (h : DkA w b c sv out left given vO vZ) : DkC w b c sv out left given vO vZ where
  c0 := h.cell (i := 0) (by omega)
  c1 := h.cell (i := 1) (by omega)
  c2 := h.cell (i := 2) (by omega)
  c3 := h.cell (i := 3) (by omega)
  c4 := h.cell (i := 4) (by omega)
  c5 := h.cell (i := 5) (by omega)
  co := fun i hi => by
    have := h.cell (i := 6 + i) (by omega)
    rw [this]
    unfold dkF
    rw [if_neg (by omega), if_neg (by omega), if_neg (by omega), if_neg (by omega), if_neg (by omega), if_neg (by omega), if_pos (by omega), show 6 + i - 6 = i by omega]
  c22 := h.cell (i := 22) (by omega)
  c23 := h.cell (i := 23) (by omega)
  c24 := h.cell (i := 24) (by omega)
  c25 := h.cell (i := 25) (by omega)
  fr := h.frozen
theorem DkA.fresh {w w' : World} {b : Nat} {c : Me} {sv : Value} {out : Nat → Bool} {left given : Int} {vO vZ : Value} (h : DkA w b c sv out left given vO vZ) (f : Below w.heap.size w w') : DkA w' b c sv out left given vO vZ := h.of_block (f.block b h.lt)
/-- a set of places as a value -/
def IsO (A : Array Value) (out : Nat → Bool) : Prop := A.size = 16 ∧ ∀ i, i < 16 → A[i]? = some (.bool (out i))
theorem hs_zero (S : Nat → Se) (out : Nat → Bool) (b : Nat) : hs S 0 out b = false := rfl
theorem hs_succ (S : Nat → Se) (p : Nat) (out : Nat → Bool) (b : Nat) : hs S (p + 1) out b = (hs S p out b || (!out p && has (S p) b)) := by
  unfold hs
  rw [List.range_succ, List.any_append]
  simp
/-- what is marked in the midst of a seat -/
def mid (S : Nat → Se) (p : Nat) (out : Nat → Bool) (j b : Nat) : Bool := hs S p out b || hasN (S p).H j b
theorem mid_zero (S : Nat → Se) (p : Nat) (out : Nat → Bool) (b : Nat) : mid S p out 0 b = hs S p out b := by
  unfold mid
  rw [hasN_zero, Bool.or_false]
theorem mid_end (S : Nat → Se) (p : Nat) (out : Nat → Bool) (b : Nat) (ho : out p = false) : mid S p out (S p).hn b = hs S (p + 1) out b := by
  unfold mid
  rw [hs_succ, ho]
  rfl
theorem mid_succ {S : Nat → Se} {p j x : Nat} {out : Nat → Bool} (hx : (S p).H j = (x : Int)) : mid S p out (j + 1) = put (mid S p out j) x := by
  funext b
  unfold mid put
  rw [hasN_succ, hx]
  by_cases e : b = x
  · rw [if_pos e, e]; simp
  · rw [if_neg e]
    have : ((x : Int) == (b : Int)) = false := by simp; omega
    rw [this, Bool.or_false]
theorem mid_same {S : Nat → Se} {p j x : Nat} {out : Nat → Bool} (hx : (S p).H j = (x : Int)) (h : mid S p out j x = true) : mid S p out (j + 1) = mid S p out j := by
  rw [mid_succ hx]
  funext b
  unfold put
  split
  · next e => rw [e, h]
  · rfl
theorem put_val (f : Nat → Bool) (x b : Nat) : (if b = x then Value.bool true else .bool (f b)) = .bool (put f x b) := by
  unfold put
  split <;> rfl
set_option maxRecDepth 100000 in
set_option maxHeartbeats 1600000 in
theorem free_any {w : World} {b : Nat} {c : Me} {u : Option Addr} {n cp : Nat} {out0 : Nat → Bool} {left given : Int} {vO vZ : Value} {L : Nat → Se}
    (hD : DkA w b c (.slice u n cp) out0 left given vO vZ) (hS : SeA w u n cp L) (hn : n ≤ 16) (hc : okM c 1) (hB : ∀ i, i < n → okB c (L i).hn (L i).H) (hg0 : 0 ≤ given) (hg1 : given ≤ 1000000) {A : Array Value} {out : Nat → Bool} (hA : IsO A out) :
    Calls Try.prog 54 #[.pointer (some ⟨b, 0, none⟩), .agg A] w fun e w' => e = .returned (.int .i64 (fre c L n given out)) ∧ Below w.heap.size w w' := by
  have HD := hidd hD
  have HS := hidd hS
  have HB := hidd hB
  have HC := hidd hc
  obtain ⟨bs, HBS⟩ : ∃ x, Hid (x = c.bs) := ⟨_, rfl⟩
  have b1 : 1 ≤ bs := by rw [HBS.out]; exact hc.2.2.1
  have b2 : bs ≤ 256 := by rw [HBS.out]; exact hc.2.2.2.1
  obtain ⟨y, HFY⟩ : ∃ y, Hid (y = bs - given) := ⟨_, rfl⟩
  have y1 : -1000000 ≤ y := by rw [HFY.out]; omega
  have y2 : y ≤ 256 := by rw [HFY.out]; omega
  have HFR : Hid (fre c L n given out = y - (cnt (hs L n out) 256 : Int)) := by unfold fre; rw [HFY.out, HBS.out]; rfl
  have HY1 : Hid (bs - given = y) := HFY.out.symm
  obtain ⟨w0, HW0⟩ : ∃ w0, Hid (w0 = w.alloc (.cells A 51)) := ⟨_, rfl⟩
  have HB0 : Hid (Below w.heap.size w w0) := by rw [HW0.out]; exact fresh_alloc _ _
  have hs0 : w0.heap.size = w.heap.size + 1 := by rw [HW0.out]; simp
  have HR0 : Hid (w0.rowIs w.heap.size 51 16 (fun i => .bool (out i))) := by
    have := World.rowIs_alloc w A 51 (fun i => .bool (out i)) (fun i hi => hA.2 i (by rw [hA.1] at hi; exact hi))
    rw [hA.1, ← HW0.out] at this
    exact this
  obtain ⟨Z, hZ1, hZ2, hZ⟩ := zeroB
  have dc := (hD.fresh HB0.out).cells
  have c0 := dc.c0
  have c5 := dc.c5
  have c23 := dc.c23
  rw [← HBS.out] at c0
  clear dc hD hS hB hc hA
  go_enter Try.func54, Try.ntmps54
  go_upto_region 1 with fail
  rw [← HW0.out]
  go_quiet (fail)
  have HD1 := hidd (HB0.out.trans ((fresh_drewN w0 nq).mono HB0.out.size))
  have HR1 := hidd (HR0.out.of_block ((fresh_drewN w0 nq).block _ HR0.out.lt))
  have hs1 : (w0.drewN nq).heap.size = w.heap.size + 1 := hs0
  replace c5 := fresh_cell (fresh_drewN w0 nq) c5
  clear c0 c23 HR0 HB0
  generalize w0.drewN nq = w1 at *
  have hR := World.rowIs_alloc w1 Z 83 (fun _ => .bool false) (fun i hi => hZ2 i (by omega))
  rw [hZ1, hs1] at hR
  have HR2 := hidd hR
  have HR3 := hidd (HR1.out.alloc (.cells Z 83))
  have HD2 := hidd (HD1.out.trans ((fresh_alloc w1 (.cells Z 83)).mono HD1.out.size))
  replace c5 := fresh_cell (fresh_alloc w1 (.cells Z 83)) c5
  clear hR hZ1 hZ2
  rw [HY1.out]
  go_upto_region 3 with fail
  try rw [hs1]
  clear hZ
  generalize w1.alloc (.cells Z 83) = w2 at *
  go_wp2
  clear c5
  go_loopw [5, 26] (fun v i wr => ∃ p : Nat, p ≤ n ∧ i = .int .i64 p ∧ v = .int .i64 (y - (cnt (hs L p out) 256 : Int)) ∧ Hid (wr.rowIs (w.heap.size + 1) 83 256 (fun b => .bool (hs L p out b))) ∧ Hid (wr.rowIs w.heap.size 51 16 (fun i => .bool (out i))) ∧ Hid (Below w.heap.size w wr)) (fun _ i _ => n - (intOf i).toNat)
  case atStart => exact ⟨0, by omega, rfl, by rw [cnt_none (fun b _ => hs_zero L out b)]; simp, HR2.out.congr (fun b _ => by rw [hs_zero]), HR3, HD2⟩
  case round =>
    obtain ⟨p, hp, rfl, rfl, HRB, HRO, HF⟩ := hrel
    obtain ⟨cn, HCN⟩ : ∃ x : Nat, Hid (x = cnt (hs L p out) 256) := ⟨_, rfl⟩
    have hcn : cn ≤ 256 := by rw [HCN.out]; exact cnt_le _ _
    rw [← HCN.out]
    by_cases hlt : p < n
    · obtain ⟨b3, o3, rfl, hcell⟩ := (HS.out.fresh HF.out).rd.seat (by omega)
      obtain ⟨x1, x2, x3, x4, x5⟩ := hcell p hlt
      have HHD := hidd (HS.out.hd p hlt)
      have k1 : (p : Int) < (n : Int) := by omega
      have k2 : (p : Int) < 16 := by omega
      have k3 : p < 16 := by omega
      clear hcell
      have hm : (L p).hn ≤ 9223372036854775807 := by have := HHD.out.le; have := HHD.out.top; unfold maxLen at this; omega
      have HHH := hidd hm
      go_upto_region 6 with fail
      have HF3 := hidd (HF.out.alloc HF.out.size (.cells #[.int .i64 (L p).id, .int .i64 (L p).kn, .int .i64 (L p).ca, .int .i64 (L p).wa, .slice (L p).ho (L p).hn (L p).hc] 32))
      have HRB3 := hidd (HRB.out.alloc (.cells #[.int .i64 (L p).id, .int .i64 (L p).kn, .int .i64 (L p).ca, .int .i64 (L p).wa, .slice (L p).ho (L p).hn (L p).hc] 32))
      have HRO3 := hidd (HRO.out.alloc (.cells #[.int .i64 (L p).id, .int .i64 (L p).kn, .int .i64 (L p).ca, .int .i64 (L p).wa, .slice (L p).ho (L p).hn (L p).hc] 32))
      have HHD3 := HHD
      obtain ⟨_, _, _, _, j5⟩ := box5 wr (.int .i64 (L p).id) (.int .i64 (L p).kn) (.int .i64 (L p).ca) (.int .i64 (L p).wa) (.slice (L p).ho (L p).hn (L p).hc) 32
      generalize (wr.alloc (.cells #[.int .i64 (L p).id, .int .i64 (L p).kn, .int .i64 (L p).ca, .int .i64 (L p).wa, .slice (L p).ho (L p).hn (L p).hc] 32)) = w3 at *
      have o1 := HRO3.out.cell (i := p) k3
      clear x1 x2 x3 x4 x5 hm
      by_cases ho : out p = true
      · rw [ho] at o1
        have HE : Hid (∀ b, hs L (p + 1) out b = hs L p out b) := fun b => by rw [hs_succ, ho]; simp
        have HE2 : Hid (cnt (hs L (p + 1) out) 256 = cn) := by rw [HCN.out]; exact cnt_congr (fun b _ => HE.out b)
        clear ho
        go_wp2
        go_roundw
        case rel => exact ⟨p + 1, by omega, by go_num, by rw [HE2.out], HRB3.out.congr (fun b _ => by rw [HE.out]), HRO3, HF3⟩
        case measure => simp [intOf]; omega
      · have ho' : out p = false := by rw [Bool.eq_false_iff]; exact ho
        rw [ho'] at o1
        have HOP := hidd ho'
        clear ho ho'
        obtain ⟨hn0, HHN⟩ : ∃ y, Hid (y = (L p).hn) := ⟨_, rfl⟩
        obtain ⟨hc0, HHC⟩ : ∃ y, Hid (y = (L p).hc) := ⟨_, rfl⟩
        obtain ⟨hoo, HHO⟩ : ∃ y, Hid (y = (L p).ho) := ⟨_, rfl⟩
        rw [← HHN.out, ← HHC.out, ← HHO.out] at j5 HHD3
        rw [← HHN.out] at HHH
        have hmm := HHH.out
        go_wp2
        clear o1
        go_loopw [5, 37] (fun v i wi => ∃ j : Nat, j ≤ hn0 ∧ i = .int .i64 j ∧ v = .int .i64 (y - (cnt (mid L p out j) 256 : Int)) ∧ Hid (wi.rowIs (w.heap.size + 1) 83 256 (fun b => .bool (mid L p out j b))) ∧ Hid (wi.rowIs w.heap.size 51 16 (fun i => .bool (out i))) ∧ Hid (Below w.heap.size w wi)) (fun _ i _ => hn0 - (intOf i).toNat)
        case atStart => exact ⟨0, by omega, rfl, by rw [cnt_congr (fun b _ => mid_zero L p out b), HCN.out], HRB3.out.congr (fun b _ => by rw [mid_zero]), HRO3, HF3⟩
        case round =>
          rename_i wi hrel
          obtain ⟨j, hj, rfl, rfl, HMB, HMO, HMF⟩ := hrel
          obtain ⟨cm, HCM⟩ : ∃ x : Nat, Hid (x = cnt (mid L p out j) 256) := ⟨_, rfl⟩
          have hcm : cm ≤ 256 := by rw [HCM.out]; exact cnt_le _ _
          rw [← HCM.out]
          by_cases hjl : j < hn0
          · obtain ⟨b4, o4, rfl, hcl⟩ := (HHD3.out.fresh HMF.out).one (by omega)
            have z1 := hcl j hjl
            clear hcl
            have hbd := (HB.out p hlt).1 j (by rw [← HHN.out]; exact hjl)
            obtain ⟨x, HX⟩ : ∃ x : Nat, Hid ((L p).H j = (x : Int)) := ⟨((L p).H j).toNat, by show _ = _; omega⟩
            rw [HX.out] at z1 hbd
            rw [← HBS.out] at hbd
            have x0 : (0 : Int) ≤ (x : Int) := by omega
            have x1 : (x : Int) < 256 := by omega
            have x2 : x < 256 := by omega
            have j1 : (j : Int) < (hn0 : Int) := by omega
            have m1 := HMB.out.cell (i := x) x2
            have fr := HMB.out.frozen
            clear hbd
            by_cases hm : mid L p out j x = true
            · rw [hm] at m1
              have HSM := hidd (mid_same HX.out hm)
              have HCE : Hid (cnt (mid L p out (j + 1)) 256 = cm) := by show _ = _; rw [HSM.out, HCM.out]
              clear hm
              go_wp2
              go_roundw
              case rel => exact ⟨j + 1, by omega, by go_num, by rw [HCE.out], HMB.out.congr (fun b _ => by rw [HSM.out]), HMO, HMF⟩
              case measure => simp [intOf]; omega
            · have hm' : mid L p out j x = false := by rw [Bool.eq_false_iff]; exact hm
              rw [hm'] at m1
              have HSM := hidd (mid_succ (out := out) HX.out)
              have HCE : Hid (cnt (mid L p out (j + 1)) 256 = cm + 1) := by show _ = _; rw [HSM.out, cnt_put x2 hm', HCM.out]
              clear hm hm'
              have HST := hidd ((HMB.out.set x (.bool true)).congr (fun b _ => put_val _ x b))
              go_wp2
              go_roundw
              case rel => exact ⟨j + 1, by omega, by go_num, by rw [HCE.out]; go_num, by rw [HSM.out]; exact HST, HMO.out.setOther (by simp) _, HMF.out.setCell (by simp) _⟩
              case measure => simp [intOf]; omega
          · obtain rfl : j = hn0 := by omega
            have HE : Hid (∀ b, mid L p out j b = hs L (p + 1) out b) := fun b => by rw [HHN.out]; exact mid_end L p out b HOP.out
            have HE2 : Hid (cnt (hs L (p + 1) out) 256 = cm) := by rw [HCM.out]; exact (cnt_congr (fun b _ => HE.out b)).symm
            go_wp2
            go_roundw
            case rel => exact ⟨p + 1, by omega, by go_num, by rw [HE2.out], HMB.out.congr (fun b _ => by rw [HE.out]), HMO, HMF⟩
            case measure => simp [intOf]; omega
    · obtain rfl : p = n := by omega
      go_wp2
      go_ret
      exact ⟨ret_int (by rw [HFR.out, HCN.out]), HF.out⟩
end Go.Proofs.Ytdceahebkohbjab
