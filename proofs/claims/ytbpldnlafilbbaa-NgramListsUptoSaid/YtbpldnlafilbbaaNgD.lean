import Derived.Test.YtbpldnlafilbbaaNgC
namespace Go.Proofs.Ytbpldnlafilbbaa
open Go.RowKit
/-! enterLast. -/
/-- the new place, as far as it is written -/
noncomputable def nwF (tx : Nat → Int) (A : Nat → Nat) (n k : Nat) : Nat → Value := fun j => if j = 0 then .int .i64 ((n + 1 : Nat) : Int) else if j - 1 < k then ptO A (ear tx (n + 1) (j - 1)) else nilP
structure EnP (w wr : World) (X : Nat) (S : Nat → Prop) (most n : Nat) (tx : Nat → Int) (A M : Nat → Nat) (Lb : Nat) (tv pv : Value) (k : Nat) : Prop where
  ix : Ix wr X S most (n + 1) n tx A M Lb tv pv (fun i => gm tx A (if i < k then n + 1 else n) i)
  new : wr.rowIs w.heap.size 69 5 (nwF tx A n k)
  chg : Chg w wr S
theorem Ix.nameA {w : World} {X : Nat} {S : Nat → Prop} {most nt np : Nat} {tx : Nat → Int} {A B M : Nat → Nat} {Lb : Nat} {tv pv : Value} {G H : Nat → Value → Value} (h : Ix w X S most nt np tx A M Lb tv pv G) (hA : ∀ q, 1 ≤ q → q ≤ np → A q = B q) (hG : ∀ i, i < most → ∀ k, G i k = H i k) : Ix w X S most nt np tx B M Lb tv pv H :=
  ⟨h.row, h.tok, h.plc.congr (fun j hj => by rw [hA (j + 1) (by omega) (by omega)]), h.lst, fun i hi => (h.map i hi).congr (hG i hi), fun q h1 h2 => by
    rw [← hA q h1 h2]
    exact (h.pls q h1 h2).congr (fun j _ => plF_congr (fun _ _ => rfl) (fun r k1 k2 => hA r k1 (by omega)) j), h.fit, h.dM, h.hm, h.sX, h.sL, h.sT, h.sP, h.sM, fun q h1 h2 => by rw [← hA q h1 h2]; exact h.sA q h1 h2, h.low⟩
theorem new_place (w : World) (n : Nat) (tx : Nat → Int) (A : Nat → Nat) : (w.alloc (.cells #[.int .i64 ((n : Int) + 1), .pointer none, .pointer none, .pointer none, .pointer none] 69)).rowIs w.heap.size 69 5 (nwF tx A n 0) :=
  World.rowIs_alloc w #[.int .i64 ((n : Int) + 1), .pointer none, .pointer none, .pointer none, .pointer none] 69 _ (fun i hi => by
    have hi : i < 5 := hi
    rcases i with _ | _ | _ | _ | _ | i
    · rfl
    · rfl
    · rfl
    · rfl
    · rfl
    · omega)
theorem new_run (w : World) (r0 r1 r2 r3 : Int) : (w.alloc (.cells #[.int .i64 r0, .int .i64 r1, .int .i64 r2, .int .i64 r3] 71)).rowIs w.heap.size 71 4 (fun i => .int .i64 ([r0, r1, r2, r3].getD i 0)) :=
  World.rowIs_alloc w #[.int .i64 r0, .int .i64 r1, .int .i64 r2, .int .i64 r3] 71 _ (fun i hi => by
    have hi : i < 4 := hi
    rcases i with _ | _ | _ | _ | i
    · rfl
    · rfl
    · rfl
    · rfl
    · omega)
theorem ptO_ptr (A : Nat → Nat) (o : Option Nat) : ∃ pa, ptO A o = .pointer pa := by
  cases o
  · exact ⟨_, rfl⟩
  · exact ⟨_, rfl⟩
theorem nwF_step {tx : Nat → Int} {B : Nat → Nat} {n k j : Nat} : (if j = k + 1 then ptO B (ear tx (n + 1) k) else nwF tx B n k j) = nwF tx B n (k + 1) j := by
  unfold nwF
  by_cases e : j = k + 1
  · subst e
    rw [if_pos rfl, if_neg (by omega), if_pos (by omega)]
    rfl
  · rw [if_neg e]
    by_cases e0 : j = 0
    · rw [if_pos e0, if_pos e0]
    · rw [if_neg e0, if_neg e0]
      by_cases e1 : j - 1 < k
      · rw [if_pos e1, if_pos (by omega)]
      · rw [if_neg e1, if_neg (by omega)]
theorem EnP.step {w wr w2 w3 w4 : World} {X : Nat} {S : Nat → Prop} {most n : Nat} {tx : Nat → Int} {B M : Nat → Nat} {Lb : Nat} {tv pv : Value} {k : Nat} (h : EnP w wr X S most n tx B M Lb tv pv k) (low0 : ∀ b, S b → b < w.heap.size) (hB : B (n + 1) = w.heap.size) (hk : k < most) (hkn : k ≤ n)
    (f : Below wr.heap.size wr w2) (f3 : Below (w2.setCell ⟨w.heap.size, k + 1, none⟩ (ptO B (ear tx (n + 1) k))).heap.size (w2.setCell ⟨w.heap.size, k + 1, none⟩ (ptO B (ear tx (n + 1) k))) w3) (c : Chg w3 w4 (fun b => b = M k)) (hp : PMap w4 (M k) (updV (gm tx B n k) (runV (rn tx (n + 1) (k + 1))) (.pointer (some ⟨w.heap.size, 0, none⟩)))) : EnP w w4 X S most n tx B M Lb tv pv (k + 1) := by
  have i3 := ((h.ix.fresh f).chg (Chg.of_set w2 w.heap.size (k + 1) (ptO B (ear tx (n + 1) k))) (fun b hb e => by have := low0 b hb; omega)).fresh f3
  have n2 := ((h.new.of_block (f.block _ h.new.lt)).set (k + 1) (ptO B (ear tx (n + 1) k))).congr (fun j _ => nwF_step)
  have n3 := n2.of_block (f3.block _ n2.lt)
  refine ⟨(i3.setMap hk c hp).nameA (fun _ _ _ => rfl) (fun i _ v => ?_), c.row n3 (fun e => (i3.map k hk).apart n3 e.symm), ?_⟩
  · by_cases e : i = k
    · subst e
      simp only [if_true, Nat.lt_succ_self, gm_succ _ _ _ _ hkn, hB]
    · simp only [if_neg e]
      by_cases e1 : i < k
      · rw [if_pos e1, if_pos (by omega)]
      · rw [if_neg e1, if_neg (by omega)]
  · refine ((h.chg.post f).trans (Chg.of_set w2 w.heap.size (k + 1) (ptO B (ear tx (n + 1) k))) (fun x hx e => by omega) |>.post f3).trans c (fun x _ e => by rw [e]; exact h.ix.sM k hk)
theorem EnP.done {w wr w5 w6 : World} {X : Nat} {S : Nat → Prop} {most n : Nat} {tx : Nat → Int} {B M : Nat → Nat} {Lb : Nat} {tv pv pv' : Value} {m : Nat} (h : EnP w wr X S most n tx B M Lb tv pv m) (hm1 : m ≤ n + 1 ∧ m ≤ most) (hm2 : m = n + 1 ∨ m = most) (low0 : ∀ b, S b → b < w.heap.size) (hB : B (n + 1) = w.heap.size)
    (f : Below wr.heap.size wr w5) (a : App w5 w6 pv pv') (o : Own w6 0 64 1 pv' (n + 1) (fun j => .pointer (some ⟨B (j + 1), 0, none⟩))) :
    Ix (w6.setCell ⟨X, 1, none⟩ pv') X (fun b => S b ∨ (w.heap.size ≤ b ∧ b < w6.heap.size)) most (n + 1) (n + 1) tx B M Lb tv pv' (fun i => gm tx B (n + 1) i) ∧ Chg w (w6.setCell ⟨X, 1, none⟩ pv') S := by
  have i5 := h.ix.fresh f
  have n5 := h.new.of_block (f.block _ h.new.lt)
  have c6 := Chg.of_app a
  have row6 := c6.row i5.row (fun e => own_apart i5.plc i5.row (by decide) e rfl)
  have tok6 := i5.tok.chg c6 (fun b hb e => own_off i5.tok i5.plc (by decide) b hb e)
  have lst6 := c6.row i5.lst (fun e => own_apart i5.plc i5.lst (by decide) e rfl)
  have map6 : ∀ i, i < most → PMap w6 (M i) (gm tx B (if i < m then n + 1 else n) i) := fun i hi => (i5.map i hi).chg c6 (fun e => (i5.map i hi).offOwn i5.plc e rfl)
  have new6 := c6.row n5 (fun e => own_apart i5.plc n5 (by decide) e rfl)
  have pls6 : ∀ q, 1 ≤ q → q ≤ n → w6.rowIs (B q) 69 5 (plF tx B most q) := fun q h1 h2 => c6.row (i5.pls q h1 h2) (fun e => own_apart i5.plc (i5.pls q h1 h2) (by decide) e rfl)
  have c7 := Chg.of_set w6 X 1 pv'
  have hs5 : wr.heap.size ≤ w5.heap.size := f.size
  have hs6 : w5.heap.size ≤ w6.heap.size := c6.size
  have hsr : w.heap.size < wr.heap.size := h.new.lt
  refine ⟨⟨?_, tok6.chg c7 (fun b hb e => own_apart tok6 row6 (by decide) hb e), o.chg c7 (fun b hb e => own_apart o row6 (by decide) hb e), c7.row lst6 (fun e => type_apart lst6 row6 (by decide) e), fun i hi => ?_, fun q h1 h2 => ?_, i5.fit, i5.dM, i5.hm, .inl i5.sX, .inl i5.sL, fun b hb => .inl (i5.sT b hb), fun b hb => ?_, fun i hi => .inl (i5.sM i hi), fun q h1 h2 => ?_, fun b hb => ?_⟩, ?_⟩
  · refine (row6.set 1 pv').congr (fun i _ => ?_)
    unfold ixF
    by_cases e : i = 1
    · subst e; rfl
    · rw [if_neg e, if_neg e, if_neg e]
  · refine ((map6 i hi).chg c7 (fun e => (map6 i hi).apart row6 e)).congr (fun k => ?_)
    by_cases e : i < m
    · rw [if_pos e]
    · rw [if_neg e, gm_small _ _ _ _ (by omega)]
  · by_cases e : q = n + 1
    · subst e
      rw [hB]
      refine (c7.row new6 (fun e => type_apart new6 row6 (by decide) e)).congr (fun j _ => ?_)
      unfold nwF plF erV
      by_cases e0 : j = 0
      · rw [if_pos e0, if_pos e0]
      · rw [if_neg e0, if_neg e0]
        by_cases e1 : j - 1 < m
        · rw [if_pos e1, if_pos ⟨by omega, by omega⟩]
        · rw [if_neg e1, if_neg (by omega)]
    · exact c7.row (pls6 q h1 (by omega)) (fun e => type_apart (pls6 q h1 (by omega)) row6 (by decide) e)
  · rcases a.blk b hb with e | e
    · exact .inl (i5.sP b e)
    · exact .inr ⟨by omega, (o.lt b hb).2⟩
  · by_cases e : q = n + 1
    · subst e
      rw [hB]
      exact .inr ⟨Nat.le_refl _, by omega⟩
    · exact .inl (i5.sA q h1 (by omega))
  · rw [World.size_setCell]
    rcases hb with hb | hb
    · have := low0 b hb; omega
    · exact hb.2
  · refine ((h.chg.post f).trans c6 (fun x _ e => i5.sP x e)).trans c7 (fun x _ e => by rw [e]; exact i5.sX)
theorem infoPP : (Try.prog.info? 64).map (fun i => (i.zero, i.size, i.bytes)) = some (some (.pointer none), 1, 8) := by kernel_rfl
set_option maxRecDepth 20000 in
set_option maxHeartbeats 4000000 in
theorem enter_any {w : World} {X : Nat} {S : Nat → Prop} {most n : Nat} {tx : Nat → Int} {A M : Nat → Nat} {Lb : Nat} {tv pv : Value} (h : Ix w X S most (n + 1) n tx A M Lb tv pv (fun i => gm tx A n i)) (hn : (n + 1) * 8 ≤ 140737488351232) :
    Calls Try.prog 29 #[.pointer (some ⟨X, 0, none⟩)] w fun e w' => e = .returned (.tuple #[]) ∧ ∃ S' A' pv', Ix w' X S' most (n + 1) (n + 1) tx A' M Lb tv pv' (fun i => gm tx A' (n + 1) i) ∧ Chg w w' S ∧ (∀ b, S b → S' b) ∧ (∀ b, S' b → S b ∨ w.heap.size ≤ b) ∧ (∀ q, 1 ≤ q → q ≤ n → A' q = A q) := by
  obtain ⟨u, cap, htv, hrd⟩ := h.tok.rd
  obtain ⟨c0, c1, c2⟩ := h.cells
  rw [htv] at c0
  have hle := hrd.le
  have htop := hrd.top
  unfold maxLen at htop
  have LOW : Hid (∀ b, S b → b < w.heap.size) := h.low
  have htok := h.tok
  rw [htv] at htok
  obtain ⟨tb, hu, h91, h92, h93, h94⟩ := htok.at_ (by omega)
  clear h91 h92 h93 h94
  have hm := h.hm
  have H0 : Hid (Ix w X S most (n + 1) n tx (updA A (n + 1) w.heap.size) M Lb tv pv (fun i => gm tx (updA A (n + 1) w.heap.size) n i)) := h.nameA (fun q _ h2 => (updA_ne A _ (by omega)).symm) (fun i _ k => gm_congr (fun _ _ => rfl) (fun q _ h2 => (updA_ne A _ (by omega)).symm) i k)
  have HA : Hid (∀ q, 1 ≤ q → q ≤ n → updA A (n + 1) w.heap.size q = A q) := fun q _ h2 => updA_ne A _ (by omega)
  have HAn : Hid (updA A (n + 1) w.heap.size (n + 1) = w.heap.size) := updA_at _ _ _
  have HTV := hidd htv
  have HU := hidd hu
  generalize updA A (n + 1) w.heap.size = B at *
  have e1 : (((n + 1 : Nat) : Int)) = (n : Int) + 1 := by push_cast; rfl
  obtain ⟨m, hmm⟩ : ∃ m, m = Nat.min (n + 1) most := ⟨_, rfl⟩
  have hm1 : m ≤ n + 1 ∧ m ≤ most := by rw [hmm]; exact ⟨Nat.min_le_left _ _, Nat.min_le_right _ _⟩
  have hm2 : m = n + 1 ∨ m = most := by rw [hmm]; show min (n + 1) most = n + 1 ∨ min (n + 1) most = most; omega
  have HLG : Hid (∀ z : World, z.cell? ⟨X, 2, none⟩ = some (.slice (some ⟨Lb, 0, none⟩) most most) → Calls Try.prog 33 #[.pointer (some ⟨X, 0, none⟩), .int .i64 ((n : Int) + 1)] z fun e w' => e = .returned (.int .i64 m) ∧ w' = z) := fun z hz => by
    rw [hmm]
    exact longest_at hz (n + 1)
  have f0 := fresh_alloc w (.cells #[.int .i64 ((n : Int) + 1), .pointer none, .pointer none, .pointer none, .pointer none] 69)
  have hnew := new_place w n tx B
  have hsz : (w.alloc (.cells #[.int .i64 ((n : Int) + 1), .pointer none, .pointer none, .pointer none, .pointer none] 69)).heap.size = w.heap.size + 1 := by simp
  clear h hmm htv hu hrd htok
  go_enter Try.func29, Try.ntmps29
  go_upto_region 1 with fail
  have c2' := fresh_cell f0 c2
  have EP : Hid (EnP w (w.alloc (.cells #[.int .i64 ((n : Int) + 1), .pointer none, .pointer none, .pointer none, .pointer none] 69)) X S most n tx B M Lb tv pv 0) := ⟨(H0.out.fresh f0).nameA (fun _ _ _ => rfl) (fun i _ k => by rw [if_neg (by omega)]), hnew, Chg.of_below S f0⟩
  clear c0 c1 c2
  generalize (w.alloc (.cells #[.int .i64 ((n : Int) + 1), .pointer none, .pointer none, .pointer none, .pointer none] 69)) = w1 at *
  have p0 : w1.cell? ⟨w.heap.size, 0, none⟩ = some (.int .i64 ((n : Int) + 1)) := hnew.cell (i := 0) (by decide)
  go_wp2_with (go_at_call 33; refine (HLG.out _ c2').mono ?_; rintro e w2 ⟨rfl, rfl⟩)
  clear p0 c2' hnew f0 hsz HLG
  go_loopw [18] (fun i wr => ∃ k : Nat, k ≤ m ∧ i = .int .i64 k ∧ Hid (EnP w wr X S most n tx B M Lb tv pv k)) (fun i _ => m - (intOf i).toNat)
  case atStart => exact ⟨0, by omega, rfl, EP⟩
  case round =>
    clear EP
    obtain ⟨k, hk, rfl, HE⟩ := hrel
    by_cases hlt : k < m
    · have i1 : (k : Int) < (m : Int) := by omega
      obtain ⟨d0, d1, d2⟩ := HE.out.ix.cells
      have p0 : wr.cell? ⟨w.heap.size, 0, none⟩ = some (.int .i64 ((n : Int) + 1)) := HE.out.new.cell (i := 0) (by decide)
      have htok := HE.out.ix.tok
      rw [HTV.out] at htok d0
      obtain ⟨tb', hu', h91, h92, hcl, h94⟩ := htok.at_ (by omega)
      clear h91 h92 h94
      have htb : tb' = tb := by rw [HU.out] at hu'; cases hu'; rfl
      subst htb
      rw [HU.out] at d0
      obtain ⟨r0, hr0⟩ : ∃ r, r = rc tx (n + 1) (k + 1) 0 := ⟨_, rfl⟩
      obtain ⟨r1, hr1⟩ : ∃ r, r = rc tx (n + 1) (k + 1) 1 := ⟨_, rfl⟩
      obtain ⟨r2, hr2⟩ : ∃ r, r = rc tx (n + 1) (k + 1) 2 := ⟨_, rfl⟩
      obtain ⟨r3, hr3⟩ : ∃ r, r = rc tx (n + 1) (k + 1) 3 := ⟨_, rfl⟩
      have HKEY : Hid (runV (rn tx (n + 1) (k + 1)) = .agg #[.int .i64 r0, .int .i64 r1, .int .i64 r2, .int .i64 r3]) := by rw [hr0, hr1, hr2, hr3]; rfl
      have HAH : Hid (Calls Try.prog 34 #[.pointer (some ⟨X, 0, none⟩), .int .i64 ((n : Int) + 1), .int .i64 ((k : Int) + 1)] wr fun e w' => e = .returned (.agg #[.int .i64 r0, .int .i64 r1, .int .i64 r2, .int .i64 r3]) ∧ Below wr.heap.size wr w') := by
        show Calls _ _ _ _ _
        rw [← HKEY.out]
        exact ahead_at d0 (fun j hj => hcl j (by omega)) hle (by omega) (q := n + 1) (l := k + 1) (by omega) (by omega) (by omega) (Nat.le_refl _)
      clear hr0 hr1 hr2 hr3 htok hcl hu' d1
      go_wp2_with (go_at_call 34; refine HAH.out.mono ?_; rintro e w3 ⟨rfl, f3⟩)
      clear d0 d2 p0 HAH
      have f4 := fresh_trans f3 (fresh_alloc w3 (.cells #[.int .i64 r0, .int .i64 r1, .int .i64 r2, .int .i64 r3] 71))
      have hrow : (w3.alloc (.cells #[.int .i64 r0, .int .i64 r1, .int .i64 r2, .int .i64 r3] 71)).rowIs w3.heap.size 71 4 (fun i => .int .i64 ([r0, r1, r2, r3].getD i 0)) := new_run w3 r0 r1 r2 r3
      have hw3 : w.heap.size < w3.heap.size := Nat.lt_of_lt_of_le HE.out.new.lt f3.size
      generalize (w3.alloc (.cells #[.int .i64 r0, .int .i64 r1, .int .i64 r2, .int .i64 r3] 71)) = w4 at *
      generalize w3.heap.size = rb at *
      have I4 := hidd (HE.out.ix.fresh f4)
      have N4 := hidd (HE.out.new.of_block (f4.block _ HE.out.new.lt))
      have F4 := hidd f4
      have HRW := hidd hrow
      obtain ⟨pa, hval⟩ := ptO_ptr B (ear tx (n + 1) k)
      have HVAL := hidd hval
      have hrun : isRun (runV (rn tx (n + 1) (k + 1))) := rn_run (by omega) (fun j hj => I4.out.fit j hj)
      have HRUN := hidd hrun
      have lk : (Instr.lookup 60 (.map (some (M k))) (.agg #[.int .i64 r0, .int .i64 r1, .int .i64 r2, .int .i64 r3]) false).run Try.prog w4.drew = .ok (.pointer pa) w4.drew := by
        have hmap := (I4.out.fresh (Below.refl _ w4).drew).map k (by omega)
        have := hmap.look hrun
        rw [if_neg (by omega), gm_look, hval, HKEY.out] at this
        exact this
      have d2 : w4.cell? ⟨X, 2, none⟩ = some (.slice (some ⟨Lb, 0, none⟩) most most) := I4.out.cells.2.2
      have lm : w4.cell? ⟨Lb, k, none⟩ = some (.map (some (M k))) := I4.out.lst.cell (by omega)
      have q0 : w4.cell? ⟨rb, 0, none⟩ = some (.int .i64 r0) := hrow.cell (i := 0) (by decide)
      have q1 : w4.cell? ⟨rb, 1, none⟩ = some (.int .i64 r1) := hrow.cell (i := 1) (by decide)
      have q2 : w4.cell? ⟨rb, 2, none⟩ = some (.int .i64 r2) := hrow.cell (i := 2) (by decide)
      have q3 : w4.cell? ⟨rb, 3, none⟩ = some (.int .i64 r3) := hrow.cell (i := 3) (by decide)
      have pk : w4.cell? ⟨w.heap.size, k + 1, none⟩ = some (nwF tx B n k (k + 1)) := N4.out.cell (by omega)
      have fz := N4.out.frozen
      have i0 : (0 : Int) ≤ (k : Int) := by omega
      have i2 : (k : Int) < (most : Int) := by omega
      have i3 : (k : Int) < 4 := by omega
      have ek : 1 + k = k + 1 := by omega
      clear hval hrun hrow f4 f3
      go_region
      clear lk d2 lm q0 q1 q2 q3 pk fz
      have fd : Below (w4.setCell ⟨w.heap.size, k + 1, none⟩ (.pointer pa)).heap.size (w4.setCell ⟨w.heap.size, k + 1, none⟩ (.pointer pa)) (w4.setCell ⟨w.heap.size, k + 1, none⟩ (.pointer pa)).drew := (Below.refl _ _).drew
      have I5 := hidd ((I4.out.chg (Chg.of_set w4 w.heap.size (k + 1) (.pointer pa)) (fun b hb e => by have := LOW.out b hb; omega)).fresh fd)
      have R5 := hidd ((HRW.out.setOther (a := ⟨w.heap.size, k + 1, none⟩) (show rb ≠ w.heap.size by omega) (.pointer pa)).drew)
      have FD := hidd fd
      clear fd
      obtain ⟨w5, hw5⟩ : ∃ z, z = (w4.setCell ⟨w.heap.size, k + 1, none⟩ (.pointer pa)).drew := ⟨_, rfl⟩
      rw [← hw5] at I5 R5 FD
      rw [← hw5]
      clear hw5
      obtain ⟨w6, up, hp6, c6, _⟩ := ((I5.out.fresh (Below.refl _ w5).drew).map k (by omega)).upd HRUN.out (.pointer (some ⟨w.heap.size, 0, none⟩))
      rw [HKEY.out] at up
      rw [if_neg (by omega)] at hp6
      have HP6 := hidd hp6
      have C6 := hidd c6
      have d2 : w5.cell? ⟨X, 2, none⟩ = some (.slice (some ⟨Lb, 0, none⟩) most most) := I5.out.cells.2.2
      have lm : w5.cell? ⟨Lb, k, none⟩ = some (.map (some (M k))) := I5.out.lst.cell (by omega)
      have q0 : w5.cell? ⟨rb, 0, none⟩ = some (.int .i64 r0) := R5.out.cell (i := 0) (by decide)
      have q1 : w5.cell? ⟨rb, 1, none⟩ = some (.int .i64 r1) := R5.out.cell (i := 1) (by decide)
      have q2 : w5.cell? ⟨rb, 2, none⟩ = some (.int .i64 r2) := R5.out.cell (i := 2) (by decide)
      have q3 : w5.cell? ⟨rb, 3, none⟩ = some (.int .i64 r3) := R5.out.cell (i := 3) (by decide)
      clear hp6 c6
      go_wp2
      go_region
      clear up d2 lm q0 q1 q2 q3
      go_wp2
      go_roundw
      case rel =>
        refine ⟨k + 1, by omega, by go_num, ?_⟩
        have e9 := HVAL.out
        rw [← e9] at FD
        exact HE.out.step LOW.out HAn.out (by omega) (by omega) F4.out (fresh_trans FD.out (Below.refl _ w5).drew) C6.out HP6.out
      case measure => simp [intOf]; omega
    · obtain rfl : k = m := by omega
      have d1 := HE.out.ix.cells.2.1
      have HPL := hidd HE.out.ix.plc
      have HNC : Hid ((wr.alloc (.cells #[.pointer (some ⟨w.heap.size, 0, none⟩)] 64)).cell? ⟨wr.heap.size, 0, none⟩ = some (.pointer (some ⟨B (n + 1), 0, none⟩))) := by rw [HAn.out]; exact new_cell _ _ _
      have fX : ∀ j, wr.frozen? ⟨X, j, none⟩ = false := HE.out.ix.row.frozen
      go_wp2_with (at_builtin; refine wpList_app1 _ rfl _ _ 55 rfl 0 64 (.pointer none) 8 Try.underlying55 infoPP rfl _ n (fun j => .pointer (some ⟨B (j + 1), 0, none⟩)) rfl (HPL.out.kept (fresh_alloc _ _)) _ 1 rfl HNC.out rfl (by omega) (by omega) (Nat.zero_le _) ?_)
      intro pv' w6 ho ha
      have hD := HE.out.done hm1 hm2 LOW.out HAn.out (fresh_alloc wr (.cells #[.pointer (some ⟨w.heap.size, 0, none⟩)] 64)) ha ho
      have rX := (Chg.of_app ha).row (HE.out.ix.row.of_block ((fresh_alloc wr (.cells #[.pointer (some ⟨w.heap.size, 0, none⟩)] 64)).block _ HE.out.ix.row.lt)) (fun e => own_apart (HE.out.ix.fresh (fresh_alloc wr (.cells #[.pointer (some ⟨w.heap.size, 0, none⟩)] 64))).plc (HE.out.ix.fresh (fresh_alloc wr (.cells #[.pointer (some ⟨w.heap.size, 0, none⟩)] 64))).row (by decide) e rfl)
      have x1 : w6.cell? ⟨X, 1, none⟩ = some pv := rX.cell (i := 1) (by decide)
      have fX6 : ∀ j, w6.frozen? ⟨X, j, none⟩ = false := rX.frozen
      obtain ⟨u', c', rfl, _⟩ := ho.rd
      have HD := hidd hD
      clear hD rX HPL HNC HE d1 fX ho ha
      go_wp2
      go_end0
      exact ⟨rfl, _, B, _, HD.out.1, HD.out.2, fun b hb => .inl hb, fun b hb => hb.elim .inl (fun h => .inr h.1), HA.out⟩
end Go.Proofs.Ytbpldnlafilbbaa
