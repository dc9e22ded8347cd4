import Derived.Test.YtbpldnlafilbbaaNgPb
namespace Go.Proofs.Ytbpldnlafilbbaa
open Go.RowKit
structure LvQ (w wr : World) (X : Nat) (S : Nat → Prop) (most n : Nat) (tx : Nat → Int) (A M : Nat → Nat) (Lb : Nat) (tv pv : Value) (k : Nat) : Prop where
  lv : LvP w wr X S most n tx A M Lb tv pv k
  kp : ChgP w wr S
theorem LvQ.step {w wr w3 w4 : World} {X : Nat} {S : Nat → Prop} {most n : Nat} {tx : Nat → Int} {A M : Nat → Nat} {Lb : Nat} {tv pv : Value} {k : Nat} (h : LvQ w wr X S most n tx A M Lb tv pv k) (hk : k < most) (f : Below wr.heap.size wr w3) (c : Chg w3 w4 (fun b => b = M k)) (hp : PMap w4 (M k) (updV (gm tx A (n + 1) k) (runV (rn tx (n + 1) (k + 1))) (ptO A (ear tx (n + 1) k)))) : LvQ w w4 X S most n tx A M Lb tv pv (k + 1) := by
  have i3 := h.lv.ix.fresh f
  exact ⟨h.lv.step hk f c hp, (h.kp.post f).trans c (fun x _ e => by rw [e]; exact ⟨h.lv.ix.sM k hk, not_plM (i3.map k hk)⟩)⟩
theorem LvQ.done {w wr w5 : World} {X : Nat} {S : Nat → Prop} {most n : Nat} {tx : Nat → Int} {A M : Nat → Nat} {Lb : Nat} {tv : Value} {pb pc : Nat} {m : Nat} (h : LvQ w wr X S most n tx A M Lb tv (.slice (some ⟨pb, 0, none⟩) (n + 1) pc) m) (hm2 : m = n + 1 ∨ m = most)
    (f : Below wr.heap.size wr w5) (f2 : ∀ z : World, Below z.heap.size z z.drew) :
    Ix (((w5.setCell ⟨pb, n, none⟩ (.pointer none)).drew).setCell ⟨X, 1, none⟩ (.slice (some ⟨pb, 0, none⟩) n pc)) X S most (n + 1) n tx A M Lb tv (.slice (some ⟨pb, 0, none⟩) n pc) (fun i => gm tx A n i) ∧ ChgP w (((w5.setCell ⟨pb, n, none⟩ (.pointer none)).drew).setCell ⟨X, 1, none⟩ (.slice (some ⟨pb, 0, none⟩) n pc)) S := by
  have i5 := h.lv.ix.fresh f
  have c6 := Chg.of_set w5 pb n (.pointer none)
  have ob : (Value.slice (some ⟨pb, 0, none⟩) (n + 1) pc).ownBlock = some pb := by simp [Value.ownBlock]
  have fd := f2 (w5.setCell ⟨pb, n, none⟩ (.pointer none))
  have c6d := c6.post fd
  have row6 := c6d.row i5.row (fun e => own_apart i5.plc i5.row (by decide) ob e.symm)
  have c7 := Chg.of_set (w5.setCell ⟨pb, n, none⟩ (.pointer none)).drew X 1 (.slice (some ⟨pb, 0, none⟩) n pc)
  refine ⟨(h.lv.done hm2 f f2).1, ?_⟩
  exact ((h.kp.post f).trans c6d (fun x _ e => by rw [e]; exact ⟨i5.sP pb ob, not_plO i5.plc (by decide) ob⟩)).trans c7 (fun x _ e => by rw [e]; exact ⟨i5.sX, not_pl row6 (by decide)⟩)
set_option maxRecDepth 20000 in
set_option maxHeartbeats 4000000 in
theorem leaveP_any {w : World} {X : Nat} {S : Nat → Prop} {most n : Nat} {tx : Nat → Int} {A M : Nat → Nat} {Lb : Nat} {tv pv : Value} (h : Ix w X S most (n + 1) (n + 1) tx A M Lb tv pv (fun i => gm tx A (n + 1) i)) :
    Calls Try.prog 30 #[.pointer (some ⟨X, 0, none⟩)] w fun e w' => e = .returned (.tuple #[]) ∧ ∃ pv', Ix w' X S most (n + 1) n tx A M Lb tv pv' (fun i => gm tx A n i) ∧ ChgP w w' S := by
  obtain ⟨u, cap, htv, hrd⟩ := h.tok.rd
  obtain ⟨u2, cap2, hpv, hrd2⟩ := h.plc.rd
  have hpl := h.plc
  rw [hpv] at hpl
  obtain ⟨pb, hu2, h91, h92, hpc, h94⟩ := hpl.at_ (by omega)
  subst hu2
  subst hpv
  obtain ⟨c0, c1, c2⟩ := h.cells
  rw [htv] at c0
  have hle := hrd.le
  have htop := hrd.top
  have hle2 := hrd2.le
  have htop2 := hrd2.top
  unfold maxLen at htop htop2
  have htok := h.tok
  rw [htv] at htok
  obtain ⟨tb, hu, k91, k92, k93, k94⟩ := htok.at_ (by omega)
  have cl : w.cell? ⟨pb, n, none⟩ = some (.pointer (some ⟨A (n + 1), 0, none⟩)) := hpc n (by omega)
  have HPL := hidd (h.pls (n + 1) (by omega) (Nat.le_refl _))
  have hm := h.hm
  have HTV := hidd htv
  have HU := hidd hu
  obtain ⟨m, hmm⟩ : ∃ m, m = Nat.min (n + 1) most := ⟨_, rfl⟩
  have hm1 : m ≤ n + 1 ∧ m ≤ most := by rw [hmm]; exact ⟨Nat.min_le_left _ _, Nat.min_le_right _ _⟩
  have hm2 : m = n + 1 ∨ m = most := by rw [hmm]; show min (n + 1) most = n + 1 ∨ min (n + 1) most = most; omega
  have HLG : Hid (∀ z : World, z.cell? ⟨X, 2, none⟩ = some (.slice (some ⟨Lb, 0, none⟩) most most) → Calls Try.prog 33 #[.pointer (some ⟨X, 0, none⟩), .int .i64 ((n : Int) + 1)] z fun e w' => e = .returned (.int .i64 m) ∧ w' = z) := fun z hz => by
    rw [hmm]
    exact longest_at hz (n + 1)
  have E0 : Hid (LvQ w w.drew X S most n tx A M Lb tv (.slice (some ⟨pb, 0, none⟩) (n + 1) cap2) 0) := ⟨⟨(h.fresh (Below.refl _ w).drew).nameA (fun _ _ _ => rfl) (fun i _ k => by unfold lvG; rw [if_neg (by omega)]), Chg.of_below S (Below.refl _ w).drew⟩, ChgP.of_below S (Below.refl _ w).drew⟩
  have p0 : w.drew.cell? ⟨A (n + 1), 0, none⟩ = some (.int .i64 ((n : Int) + 1)) := HPL.out.drew.cell (i := 0) (by decide)
  have d2 : w.drew.cell? ⟨X, 2, none⟩ = some (.slice (some ⟨Lb, 0, none⟩) most most) := c2
  have e1 : (((n + 1 : Nat) : Int)) - 1 = (n : Int) := by omega
  have hwr : IntKind.i64.wrap (n : Int) = (n : Int) := wrap_small _ (by omega) (by omega)
  have i0 : (0 : Int) ≤ (n : Int) := by omega
  have i1 : (n : Int) < (n : Int) + 1 := by omega
  have hpn := ptr_nil9
  clear h hmm htv hu hrd hrd2 htok hpl hpc h91 h92 h94 k91 k92 k93 k94 c0 c2 HPL
  go_enter Try.func30, Try.ntmps30
  go_wp2
  go_region
  clear c1 cl
  generalize w.drew = w1 at *
  go_wp2_with (go_at_call 33; refine (HLG.out _ d2).mono ?_; rintro e w2 ⟨rfl, rfl⟩)
  clear p0 d2 HLG
  go_loopw [23] (fun i wr => ∃ k : Nat, k ≤ m ∧ i = .int .i64 k ∧ Hid (LvQ w wr X S most n tx A M Lb tv (.slice (some ⟨pb, 0, none⟩) (n + 1) cap2) k)) (fun i _ => m - (intOf i).toNat)
  case atStart => exact ⟨0, by omega, rfl, E0⟩
  case round =>
    clear E0
    obtain ⟨k, hk, rfl, HE⟩ := hrel
    by_cases hlt : k < m
    · have i9 : (k : Int) < (m : Int) := by omega
      obtain ⟨d0, d1, d2⟩ := HE.out.lv.ix.cells
      have hplr := HE.out.lv.ix.pls (n + 1) (by omega) (Nat.le_refl _)
      have p0 : wr.cell? ⟨A (n + 1), 0, none⟩ = some (.int .i64 ((n : Int) + 1)) := hplr.cell (i := 0) (by decide)
      have htok := HE.out.lv.ix.tok
      rw [HTV.out] at htok d0
      obtain ⟨tb', hu', h91, h92, hcl, h94⟩ := htok.at_ (by omega)
      clear h91 h92 h94
      have htb : tb' = tb := by rw [HU.out] at hu'; cases hu'; rfl
      subst htb
      rw [HU.out] at d0
      obtain ⟨r0, hr0⟩ : ∃ r, r = rc tx (n + 1) (k + 1) 0 := ⟨_, rfl⟩
      obtain ⟨r1, hr1⟩ : ∃ r, r = rc tx (n + 1) (k + 1) 1 := ⟨_, rfl⟩
      obtain ⟨r2, hr2⟩ : ∃ r, r = rc tx (n + 1) (k + 1) 2 := ⟨_, rfl⟩
      obtain ⟨r3, hr3⟩ : ∃ r, r = rc tx (n + 1) (k + 1) 3 := ⟨_, rfl⟩
      have HKEY : Hid (runV (rn tx (n + 1) (k + 1)) = .agg #[.int .i64 r0, .int .i64 r1, .int .i64 r2, .int .i64 r3]) := by rw [hr0, hr1, hr2, hr3]; rfl
      have HAH : Hid (Calls Try.prog 34 #[.pointer (some ⟨X, 0, none⟩), .int .i64 ((n : Int) + 1), .int .i64 ((k : Int) + 1)] wr fun e w' => e = .returned (.agg #[.int .i64 r0, .int .i64 r1, .int .i64 r2, .int .i64 r3]) ∧ Below wr.heap.size wr w') := by
        show Calls _ _ _ _ _
        rw [← HKEY.out]
        exact ahead_at d0 (fun j hj => hcl j (by omega)) hle (by omega) (q := n + 1) (l := k + 1) (by omega) (by omega) (by omega) (Nat.le_refl _)
      clear hr0 hr1 hr2 hr3 htok hcl hu' d1 d2 hplr
      have j0 : (0 : Int) ≤ (k : Int) := by omega
      have j2 : (k : Int) < (most : Int) := by omega
      have j3 : (k : Int) < 4 := by omega
      have ek : 1 + k = k + 1 := by omega
      go_upto_region 5 with (go_at_call 34; refine HAH.out.mono ?_; rintro e w3 ⟨rfl, f3⟩)
      clear d0 p0 HAH
      have f4 := fresh_trans f3 (fresh_alloc w3 (.cells #[.int .i64 r0, .int .i64 r1, .int .i64 r2, .int .i64 r3] 71))
      have hrow := new_run9 w3 r0 r1 r2 r3
      generalize (w3.alloc (.cells #[.int .i64 r0, .int .i64 r1, .int .i64 r2, .int .i64 r3] 71)) = w4 at *
      generalize w3.heap.size = rb at *
      have I4 := hidd (HE.out.lv.ix.fresh f4)
      have F4 := hidd f4
      have HRUN : Hid (isRun (runV (rn tx (n + 1) (k + 1)))) := rn_run (by omega) (fun j hj => I4.out.fit j hj)
      have d2 : w4.cell? ⟨X, 2, none⟩ = some (.slice (some ⟨Lb, 0, none⟩) most most) := I4.out.cells.2.2
      have lm : w4.cell? ⟨Lb, k, none⟩ = some (.map (some (M k))) := I4.out.lst.cell (by omega)
      have q0 : w4.cell? ⟨rb, 0, none⟩ = some (.int .i64 r0) := hrow.cell (i := 0) (by decide)
      have q1 : w4.cell? ⟨rb, 1, none⟩ = some (.int .i64 r1) := hrow.cell (i := 1) (by decide)
      have q2 : w4.cell? ⟨rb, 2, none⟩ = some (.int .i64 r2) := hrow.cell (i := 2) (by decide)
      have q3 : w4.cell? ⟨rb, 3, none⟩ = some (.int .i64 r3) := hrow.cell (i := 3) (by decide)
      have pk : w4.cell? ⟨A (n + 1), k + 1, none⟩ = some (ptO A (ear tx (n + 1) k)) := by
        rw [(I4.out.pls (n + 1) (by omega) (Nat.le_refl _)).cell (i := k + 1) (by omega)]
        unfold plF erV
        rw [if_neg (by omega), if_pos ⟨by omega, by omega⟩]
        rfl
      have hmap := (I4.out.fresh (Below.refl _ w4).drew).map k (by omega)
      have hG : lvG tx A n k k = gm tx A (n + 1) k := by unfold lvG; rw [if_neg (by omega)]
      rw [hG] at hmap
      clear hrow f4 f3 hG
      cases hea : ear tx (n + 1) k with
      | none =>
        rw [hea] at pk
        have pk' : w4.cell? ⟨A (n + 1), k + 1, none⟩ = some (.pointer none) := pk
        obtain ⟨w6, up, hp6, c6, _⟩ := hmap.del HRUN.out 0
        rw [HKEY.out] at up
        have HP6 : Hid (PMap w6 (M k) (updV (gm tx A (n + 1) k) (runV (rn tx (n + 1) (k + 1))) (ptO A (ear tx (n + 1) k)))) := by rw [hea]; exact hp6
        have C6 := hidd c6
        clear pk hmap hp6 c6
        go_wp2
        go_region
        clear up d2 lm q0 q1 q2 q3 pk'
        go_wp2
        go_roundw
        case rel => exact ⟨k + 1, by omega, by go_num, HE.out.step (by omega) (fresh_trans F4.out (Below.refl _ w4).drew) C6.out HP6.out⟩
        case measure => simp [intOf]; omega
      | some q =>
        rw [hea] at pk
        have pk' : w4.cell? ⟨A (n + 1), k + 1, none⟩ = some (.pointer (some ⟨A q, 0, none⟩)) := pk
        obtain ⟨w6, up, hp6, c6, _⟩ := hmap.upd HRUN.out (.pointer (some ⟨A q, 0, none⟩))
        rw [HKEY.out] at up
        have HP6 : Hid (PMap w6 (M k) (updV (gm tx A (n + 1) k) (runV (rn tx (n + 1) (k + 1))) (ptO A (ear tx (n + 1) k)))) := by rw [hea]; exact hp6
        have C6 := hidd c6
        clear pk hmap hp6 c6
        go_wp2
        go_region
        clear up d2 lm q0 q1 q2 q3 pk'
        go_wp2
        go_roundw
        case rel => exact ⟨k + 1, by omega, by go_num, HE.out.step (by omega) (fresh_trans F4.out (Below.refl _ w4).drew) C6.out HP6.out⟩
        case measure => simp [intOf]; omega
    · obtain rfl : k = m := by omega
      have hD := HE.out.done hm2 (Below.refl _ wr) (fun z => (Below.refl _ z).drew)
      have d1 := HE.out.lv.ix.cells.2.1
      have hpl := HE.out.lv.ix.plc
      obtain ⟨pb', hu', h91, h92, hcl, hfz⟩ := hpl.at_ (by omega)
      cases hu'
      have cl : wr.cell? ⟨pb, n, none⟩ = some (.pointer (some ⟨A (n + 1), 0, none⟩)) := hcl n (by omega)
      have hXp : ¬ X = pb := fun e => own_apart hpl HE.out.lv.ix.row (by decide) (by simp [Value.ownBlock]; exact e.symm) rfl
      have fX := HE.out.lv.ix.row.frozen
      have HD := hidd hD
      clear hD hpl hcl h91 h92
      have x1 : (wr.setCell ⟨pb, n, none⟩ (.pointer none)).drew.cell? ⟨X, 1, none⟩ = some (.slice (some ⟨pb, 0, none⟩) (n + 1) cap2) := ((Chg.of_set wr pb n (.pointer none)).post (Below.refl _ _).drew).cell d1 hXp
      have fX1 : ∀ j, (wr.setCell ⟨pb, n, none⟩ (.pointer none)).drew.frozen? ⟨X, j, none⟩ = false := (((Chg.of_set wr pb n (.pointer none)).post (Below.refl _ _).drew).row HE.out.lv.ix.row hXp).frozen
      go_wp2
      go_region
      generalize (wr.setCell ⟨pb, n, none⟩ (.pointer none)).drew = w5 at *
      clear d1 cl hfz fX
      go_wp2
      go_region
      go_end0
      exact ⟨rfl, _, HD.out.1.fresh (Below.refl _ _).drew, HD.out.2.post (Below.refl _ _).drew⟩
theorem Ix.tokCutP {w : World} {X : Nat} {S : Nat → Prop} {most n : Nat} {tx : Nat → Int} {A M : Nat → Nat} {Lb : Nat} {tb tc : Nat} {pv : Value} {G : Nat → Value → Value} (h : Ix w X S most (n + 1) n tx A M Lb (.slice (some ⟨tb, 0, none⟩) (n + 1) tc) pv G) :
    Ix (w.setCell ⟨X, 0, none⟩ (.slice (some ⟨tb, 0, none⟩) n tc)) X S most n n tx A M Lb (.slice (some ⟨tb, 0, none⟩) n tc) pv G ∧ ChgP w (w.setCell ⟨X, 0, none⟩ (.slice (some ⟨tb, 0, none⟩) n tc)) S := by
  have c7 := Chg.of_set w X 0 (.slice (some ⟨tb, 0, none⟩) n tc)
  exact ⟨h.tokCut.1, c7.imp (fun x _ e => by rw [e]; exact ⟨h.sX, not_pl h.row (by decide)⟩)⟩
set_option maxRecDepth 20000 in
set_option maxHeartbeats 4000000 in
theorem cutP_any {w : World} {X : Nat} {S : Nat → Prop} {most n : Nat} {tx : Nat → Int} {A M : Nat → Nat} {Lb : Nat} (h : IdM w X S most n tx A M Lb) (k : Int) :
    Calls Try.prog 18 #[.pointer (some ⟨X, 0, none⟩), .int .i64 k] w fun e w' => e = .returned (.tuple #[]) ∧ IdM w' X S most (Nat.min n k.toNat) tx A M Lb ∧ ChgP w w' S := by
  have hmx := max2 (a := k) (m := (k.toNat : Int)) (by omega)
  have H0 := hidd h
  obtain ⟨kk, hkk⟩ : ∃ kk, kk = k.toNat := ⟨_, rfl⟩
  rw [← hkk] at hmx ⊢
  clear h hkk
  go_enter Try.func18, Try.ntmps18
  go_wp2
  go_loopw [4] (fun _ wr => ∃ j, Nat.min n kk ≤ j ∧ j ≤ n ∧ Hid (IdM wr X S most j tx A M Lb) ∧ Hid (ChgP w wr S)) (fun _ wr => tlen wr X)
  case atStart => exact ⟨n, Nat.min_le_left _ _, Nat.le_refl _, H0, ChgP.refl w S⟩
  case round =>
    clear H0
    obtain ⟨j, hj1, hj2, HI, HC⟩ := hrel
    obtain ⟨tv, pv, hix⟩ := HI.out.ex
    obtain ⟨u, cap, htv, hrd⟩ := hix.tok.rd
    have c0 := hix.cells.1
    rw [htv] at c0
    have HL := hidd (len_at c0)
    have HTL : Hid (tlen wr X = j) := HI.out.tlen
    have hmin : Nat.min n kk = n ∨ Nat.min n kk = kk := by show min n kk = n ∨ min n kk = kk; omega
    have hmin2 : Nat.min n kk ≤ n ∧ Nat.min n kk ≤ kk := ⟨Nat.min_le_left _ _, Nat.min_le_right _ _⟩
    by_cases hgt : kk < j
    · have hd : decide ((kk : Int) < (j : Int)) = true := decide_eq_true (by omega)
      obtain ⟨jj, hjj⟩ : ∃ jj, j = jj + 1 := ⟨j - 1, by omega⟩
      subst hjj
      subst htv
      have hle := hrd.le
      have htop := hrd.top
      unfold maxLen at htop
      have htok := hix.tok
      obtain ⟨tb, hu, h91, h92, h93, h94⟩ := htok.at_ (by omega)
      subst hu
      have HLV := hidd (leaveP_any hix)
      have e1 : (((jj + 1 : Nat) : Int)) - 1 = (jj : Int) := by omega
      have hwr : IntKind.i64.wrap (jj : Int) = (jj : Int) := wrap_small _ (by omega) (by omega)
      have i0 : (0 : Int) ≤ (jj : Int) := by omega
      have i1 : (jj : Int) ≤ (cap : Int) := by omega
      clear hix hrd htok h91 h92 h93 h94 c0
      go_wp2_with (first | (go_at_call 17; refine HL.out.mono ?_; rintro e w2 ⟨rfl, rfl⟩) | (go_at_call 30; refine HLV.out.mono ?_; rintro e w3 ⟨rfl, pv', hI3, hC3⟩))
      have x0 : w3.cell? ⟨X, 0, none⟩ = some (.slice (some ⟨tb, 0, none⟩) (jj + 1) cap) := hI3.cells.1
      have fX := hI3.row.frozen
      have HD := hidd hI3.tokCutP
      have HC3 := hidd hC3
      have HMM := hidd (show IdM (w3.setCell ⟨X, 0, none⟩ (.slice (some ⟨tb, 0, none⟩) jj cap)) X S most jj tx A M Lb from ⟨_, pv', hI3.tokCutP.1⟩)
      clear hI3 hC3
      go_region
      have HFIN := hidd (HMM.out.fresh (Below.refl _ _).drew)
      have HCF := hidd (((HC.out.transP HC3.out (fun _ _ s => s)).transP HD.out.2 (fun _ _ s => s)).post (Below.refl _ _).drew)
      clear x0 fX HD HMM HC3
      generalize (w3.setCell ⟨X, 0, none⟩ (.slice (some ⟨tb, 0, none⟩) jj cap)).drew = w5 at *
      go_wp2
      go_roundw
      case rel => exact ⟨jj, by omega, by omega, HFIN, HCF⟩
      case measure =>
        rw [HTL.out, HFIN.out.tlen]
        omega
    · have hd : decide ((kk : Int) < (j : Int)) = false := decide_eq_false (by omega)
      have hjm : Nat.min n kk = j := by omega
      clear hix hrd c0
      go_wp2_with (go_at_call 17; refine HL.out.mono ?_; rintro e w2 ⟨rfl, rfl⟩)
      go_end0
      rw [hjm]
      exact ⟨rfl, HI.out, HC.out⟩
end Go.Proofs.Ytbpldnlafilbbaa
