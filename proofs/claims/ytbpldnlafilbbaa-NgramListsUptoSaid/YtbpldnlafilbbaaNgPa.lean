import Derived.Test.YtbpldnlafilbbaaNgM
namespace Go.Proofs.Ytbpldnlafilbbaa
open Go.RowKit
/-! Append and Cut once more: the places' own blocks stay as they are. -/
def isPl (w : World) (b : Nat) : Prop := ∃ f, w.rowIs b 69 5 f
def ChgP (w w' : World) (S : Nat → Prop) : Prop := Chg w w' (fun b => S b ∧ ¬ isPl w b)
theorem ChgP.chg {w w' : World} {S : Nat → Prop} (h : ChgP w w' S) : Chg w w' S := Chg.imp h (fun _ _ s => s.1)
theorem ChgP.of_below {w w' : World} (S : Nat → Prop) (f : Below w.heap.size w w') : ChgP w w' S := Chg.of_below _ f
theorem ChgP.refl (w : World) (S : Nat → Prop) : ChgP w w S := Chg.refl w _
theorem ChgP.post {a b c : World} {S : Nat → Prop} (h : ChgP a b S) (f : Below b.heap.size b c) : ChgP a c S := Chg.post h f
theorem ChgP.block {a b : World} {S : Nat → Prop} (h : ChgP a b S) {x : Nat} (hp : isPl a x) : b.heap[x]? = a.heap[x]? := by
  obtain ⟨f, hf⟩ := hp
  exact Chg.block h x hf.lt (fun s => s.2 ⟨f, hf⟩)
theorem ChgP.pl {a b : World} {S : Nat → Prop} (h : ChgP a b S) {x : Nat} (hp : isPl a x) : isPl b x := by
  obtain ⟨f, hf⟩ := hp
  exact ⟨f, hf.of_block (h.block ⟨f, hf⟩)⟩
theorem ChgP.trans {a b c : World} {S T : Nat → Prop} (h : ChgP a b S) (k : Chg b c T) (hT : ∀ x, x < a.heap.size → T x → S x ∧ ¬ isPl b x) : ChgP a c S :=
  Chg.trans h k (fun x hx t => ⟨(hT x hx t).1, fun hp => (hT x hx t).2 (h.pl hp)⟩)
theorem ChgP.transP {a b c : World} {S T : Nat → Prop} (h : ChgP a b S) (k : ChgP b c T) (hT : ∀ x, x < a.heap.size → T x → S x) : ChgP a c S :=
  h.trans k (fun x hx t => ⟨hT x hx t.1, t.2⟩)
theorem not_pl {w : World} {b : Nat} {t : TypeId} {n : Nat} {f : Nat → Value} (h : w.rowIs b t n f) (ht : t ≠ 69) : ¬ isPl w b := fun ⟨_, hp⟩ => type_apart h hp ht rfl
theorem not_plM {w : World} {M : Nat} {g : Value → Value} (h : PMap w M g) : ¬ isPl w M := fun ⟨_, hp⟩ => h.apart hp rfl
theorem not_plO {w : World} {base : Nat} {e : TypeId} {sz : Nat} {v : Value} {n : Nat} {cs : Nat → Value} (h : Own w base e sz v n cs) (he : e ≠ 69) {b : Nat} (hb : v.ownBlock = some b) : ¬ isPl w b := fun ⟨_, hp⟩ => own_apart h hp he hb rfl
structure EnQ (w wr : World) (X : Nat) (S : Nat → Prop) (most n : Nat) (tx : Nat → Int) (A M : Nat → Nat) (Lb : Nat) (tv pv : Value) (k : Nat) : Prop where
  en : EnP w wr X S most n tx A M Lb tv pv k
  kp : ChgP w wr S
theorem EnQ.step {w wr w2 w3 w4 : World} {X : Nat} {S : Nat → Prop} {most n : Nat} {tx : Nat → Int} {B M : Nat → Nat} {Lb : Nat} {tv pv : Value} {k : Nat} (h : EnQ w wr X S most n tx B M Lb tv pv k) (low0 : ∀ b, S b → b < w.heap.size) (hB : B (n + 1) = w.heap.size) (hk : k < most) (hkn : k ≤ n)
    (f : Below wr.heap.size wr w2) (f3 : Below (w2.setCell ⟨w.heap.size, k + 1, none⟩ (ptO B (ear tx (n + 1) k))).heap.size (w2.setCell ⟨w.heap.size, k + 1, none⟩ (ptO B (ear tx (n + 1) k))) w3) (c : Chg w3 w4 (fun b => b = M k)) (hp : PMap w4 (M k) (updV (gm tx B n k) (runV (rn tx (n + 1) (k + 1))) (.pointer (some ⟨w.heap.size, 0, none⟩)))) : EnQ w w4 X S most n tx B M Lb tv pv (k + 1) := by
  have i3 := ((h.en.ix.fresh f).chg (Chg.of_set w2 w.heap.size (k + 1) (ptO B (ear tx (n + 1) k))) (fun b hb e => by have := low0 b hb; omega)).fresh f3
  refine ⟨h.en.step low0 hB hk hkn f f3 c hp, ?_⟩
  exact (((h.kp.post f).trans (Chg.of_set w2 w.heap.size (k + 1) (ptO B (ear tx (n + 1) k))) (fun x hx e => by omega)).post f3).trans c (fun x _ e => by rw [e]; exact ⟨h.en.ix.sM k hk, not_plM (i3.map k hk)⟩)
theorem EnQ.done {w wr w5 w6 : World} {X : Nat} {S : Nat → Prop} {most n : Nat} {tx : Nat → Int} {B M : Nat → Nat} {Lb : Nat} {tv pv pv' : Value} {m : Nat} (h : EnQ w wr X S most n tx B M Lb tv pv m) (hm1 : m ≤ n + 1 ∧ m ≤ most) (hm2 : m = n + 1 ∨ m = most) (low0 : ∀ b, S b → b < w.heap.size) (hB : B (n + 1) = w.heap.size)
    (f : Below wr.heap.size wr w5) (a : App w5 w6 pv pv') (o : Own w6 0 64 1 pv' (n + 1) (fun j => .pointer (some ⟨B (j + 1), 0, none⟩))) :
    Ix (w6.setCell ⟨X, 1, none⟩ pv') X (fun b => S b ∨ (w.heap.size ≤ b ∧ b < w6.heap.size)) most (n + 1) (n + 1) tx B M Lb tv pv' (fun i => gm tx B (n + 1) i) ∧ ChgP w (w6.setCell ⟨X, 1, none⟩ pv') S := by
  have i5 := h.en.ix.fresh f
  have c6 := Chg.of_app a
  have row6 := c6.row i5.row (fun e => own_apart i5.plc i5.row (by decide) e rfl)
  have c7 := Chg.of_set w6 X 1 pv'
  refine ⟨(h.en.done hm1 hm2 low0 hB f a o).1, ?_⟩
  refine ((h.kp.post f).trans c6 (fun x _ e => ⟨i5.sP x e, not_plO i5.plc (by decide) e⟩)).trans c7 (fun x _ e => by rw [e]; exact ⟨i5.sX, not_pl row6 (by decide)⟩)
set_option maxRecDepth 20000 in
set_option maxHeartbeats 4000000 in
theorem enterP_any {w : World} {X : Nat} {S : Nat → Prop} {most n : Nat} {tx : Nat → Int} {A M : Nat → Nat} {Lb : Nat} {tv pv : Value} (h : Ix w X S most (n + 1) n tx A M Lb tv pv (fun i => gm tx A n i)) (hn : (n + 1) * 8 ≤ 140737488351232) :
    Calls Try.prog 29 #[.pointer (some ⟨X, 0, none⟩)] w fun e w' => e = .returned (.tuple #[]) ∧ ∃ S' A' pv', Ix w' X S' most (n + 1) (n + 1) tx A' M Lb tv pv' (fun i => gm tx A' (n + 1) i) ∧ ChgP w w' S ∧ (∀ b, S b → S' b) ∧ (∀ b, S' b → S b ∨ w.heap.size ≤ b) ∧ (∀ q, 1 ≤ q → q ≤ n → A' q = A q) := by
  obtain ⟨u, cap, htv, hrd⟩ := h.tok.rd
  obtain ⟨c0, c1, c2⟩ := h.cells
  rw [htv] at c0
  have hle := hrd.le
  have htop := hrd.top
  unfold maxLen at htop
  have LOW : Hid (∀ b, S b → b < w.heap.size) := h.low
  have htok := h.tok
  rw [htv] at htok
  obtain ⟨tb, hu, h91, h92, h93, h94⟩ := htok.at_ (by omega)
  clear h91 h92 h93 h94
  have hm := h.hm
  have H0 : Hid (Ix w X S most (n + 1) n tx (updA A (n + 1) w.heap.size) M Lb tv pv (fun i => gm tx (updA A (n + 1) w.heap.size) n i)) := h.nameA (fun q _ h2 => (updA_ne A _ (by omega)).symm) (fun i _ k => gm_congr (fun _ _ => rfl) (fun q _ h2 => (updA_ne A _ (by omega)).symm) i k)
  have HA : Hid (∀ q, 1 ≤ q → q ≤ n → updA A (n + 1) w.heap.size q = A q) := fun q _ h2 => updA_ne A _ (by omega)
  have HAn : Hid (updA A (n + 1) w.heap.size (n + 1) = w.heap.size) := updA_at _ _ _
  have HTV := hidd htv
  have HU := hidd hu
  generalize updA A (n + 1) w.heap.size = B at *
  have e1 : (((n + 1 : Nat) : Int)) = (n : Int) + 1 := by push_cast; rfl
  obtain ⟨m, hmm⟩ : ∃ m, m = Nat.min (n + 1) most := ⟨_, rfl⟩
  have hm1 : m ≤ n + 1 ∧ m ≤ most := by rw [hmm]; exact ⟨Nat.min_le_left _ _, Nat.min_le_right _ _⟩
  have hm2 : m = n + 1 ∨ m = most := by rw [hmm]; show min (n + 1) most = n + 1 ∨ min (n + 1) most = most; omega
  have HLG : Hid (∀ z : World, z.cell? ⟨X, 2, none⟩ = some (.slice (some ⟨Lb, 0, none⟩) most most) → Calls Try.prog 33 #[.pointer (some ⟨X, 0, none⟩), .int .i64 ((n : Int) + 1)] z fun e w' => e = .returned (.int .i64 m) ∧ w' = z) := fun z hz => by
    rw [hmm]
    exact longest_at hz (n + 1)
  have f0 := fresh_alloc w (.cells #[.int .i64 ((n : Int) + 1), .pointer none, .pointer none, .pointer none, .pointer none] 69)
  have hnew := new_place w n tx B
  have hsz : (w.alloc (.cells #[.int .i64 ((n : Int) + 1), .pointer none, .pointer none, .pointer none, .pointer none] 69)).heap.size = w.heap.size + 1 := by simp
  clear h hmm htv hu hrd htok
  go_enter Try.func29, Try.ntmps29
  go_upto_region 1 with fail
  have c2' := fresh_cell f0 c2
  have EP : Hid (EnQ w (w.alloc (.cells #[.int .i64 ((n : Int) + 1), .pointer none, .pointer none, .pointer none, .pointer none] 69)) X S most n tx B M Lb tv pv 0) := ⟨⟨(H0.out.fresh f0).nameA (fun _ _ _ => rfl) (fun i _ k => by rw [if_neg (by omega)]), hnew, Chg.of_below S f0⟩, ChgP.of_below S f0⟩
  clear c0 c1 c2
  generalize (w.alloc (.cells #[.int .i64 ((n : Int) + 1), .pointer none, .pointer none, .pointer none, .pointer none] 69)) = w1 at *
  have p0 : w1.cell? ⟨w.heap.size, 0, none⟩ = some (.int .i64 ((n : Int) + 1)) := hnew.cell (i := 0) (by decide)
  go_wp2_with (go_at_call 33; refine (HLG.out _ c2').mono ?_; rintro e w2 ⟨rfl, rfl⟩)
  clear p0 c2' hnew f0 hsz HLG
  go_loopw [18] (fun i wr => ∃ k : Nat, k ≤ m ∧ i = .int .i64 k ∧ Hid (EnQ w wr X S most n tx B M Lb tv pv k)) (fun i _ => m - (intOf i).toNat)
  case atStart => exact ⟨0, by omega, rfl, EP⟩
  case round =>
    clear EP
    obtain ⟨k, hk, rfl, HE⟩ := hrel
    by_cases hlt : k < m
    · have i1 : (k : Int) < (m : Int) := by omega
      obtain ⟨d0, d1, d2⟩ := HE.out.en.ix.cells
      have p0 : wr.cell? ⟨w.heap.size, 0, none⟩ = some (.int .i64 ((n : Int) + 1)) := HE.out.en.new.cell (i := 0) (by decide)
      have htok := HE.out.en.ix.tok
      rw [HTV.out] at htok d0
      obtain ⟨tb', hu', h91, h92, hcl, h94⟩ := htok.at_ (by omega)
      clear h91 h92 h94
      have htb : tb' = tb := by rw [HU.out] at hu'; cases hu'; rfl
      subst htb
      rw [HU.out] at d0
      obtain ⟨r0, hr0⟩ : ∃ r, r = rc tx (n + 1) (k + 1) 0 := ⟨_, rfl⟩
      obtain ⟨r1, hr1⟩ : ∃ r, r = rc tx (n + 1) (k + 1) 1 := ⟨_, rfl⟩
      obtain ⟨r2, hr2⟩ : ∃ r, r = rc tx (n + 1) (k + 1) 2 := ⟨_, rfl⟩
      obtain ⟨r3, hr3⟩ : ∃ r, r = rc tx (n + 1) (k + 1) 3 := ⟨_, rfl⟩
      have HKEY : Hid (runV (rn tx (n + 1) (k + 1)) = .agg #[.int .i64 r0, .int .i64 r1, .int .i64 r2, .int .i64 r3]) := by rw [hr0, hr1, hr2, hr3]; rfl
      have HAH : Hid (Calls Try.prog 34 #[.pointer (some ⟨X, 0, none⟩), .int .i64 ((n : Int) + 1), .int .i64 ((k : Int) + 1)] wr fun e w' => e = .returned (.agg #[.int .i64 r0, .int .i64 r1, .int .i64 r2, .int .i64 r3]) ∧ Below wr.heap.size wr w') := by
        show Calls _ _ _ _ _
        rw [← HKEY.out]
        exact ahead_at d0 (fun j hj => hcl j (by omega)) hle (by omega) (q := n + 1) (l := k + 1) (by omega) (by omega) (by omega) (Nat.le_refl _)
      clear hr0 hr1 hr2 hr3 htok hcl hu' d1
      go_wp2_with (go_at_call 34; refine HAH.out.mono ?_; rintro e w3 ⟨rfl, f3⟩)
      clear d0 d2 p0 HAH
      have f4 := fresh_trans f3 (fresh_alloc w3 (.cells #[.int .i64 r0, .int .i64 r1, .int .i64 r2, .int .i64 r3] 71))
      have hrow : (w3.alloc (.cells #[.int .i64 r0, .int .i64 r1, .int .i64 r2, .int .i64 r3] 71)).rowIs w3.heap.size 71 4 (fun i => .int .i64 ([r0, r1, r2, r3].getD i 0)) := new_run w3 r0 r1 r2 r3
      have hw3 : w.heap.size < w3.heap.size := Nat.lt_of_lt_of_le HE.out.en.new.lt f3.size
      generalize (w3.alloc (.cells #[.int .i64 r0, .int .i64 r1, .int .i64 r2, .int .i64 r3] 71)) = w4 at *
      generalize w3.heap.size = rb at *
      have I4 := hidd (HE.out.en.ix.fresh f4)
      have N4 := hidd (HE.out.en.new.of_block (f4.block _ HE.out.en.new.lt))
      have F4 := hidd f4
      have HRW := hidd hrow
      obtain ⟨pa, hval⟩ := ptO_ptr B (ear tx (n + 1) k)
      have HVAL := hidd hval
      have hrun : isRun (runV (rn tx (n + 1) (k + 1))) := rn_run (by omega) (fun j hj => I4.out.fit j hj)
      have HRUN := hidd hrun
      have lk : (Instr.lookup 60 (.map (some (M k))) (.agg #[.int .i64 r0, .int .i64 r1, .int .i64 r2, .int .i64 r3]) false).run Try.prog w4.drew = .ok (.pointer pa) w4.drew := by
        have hmap := (I4.out.fresh (Below.refl _ w4).drew).map k (by omega)
        have := hmap.look hrun
        rw [if_neg (by omega), gm_look, hval, HKEY.out] at this
        exact this
      have d2 : w4.cell? ⟨X, 2, none⟩ = some (.slice (some ⟨Lb, 0, none⟩) most most) := I4.out.cells.2.2
      have lm : w4.cell? ⟨Lb, k, none⟩ = some (.map (some (M k))) := I4.out.lst.cell (by omega)
      have q0 : w4.cell? ⟨rb, 0, none⟩ = some (.int .i64 r0) := hrow.cell (i := 0) (by decide)
      have q1 : w4.cell? ⟨rb, 1, none⟩ = some (.int .i64 r1) := hrow.cell (i := 1) (by decide)
      have q2 : w4.cell? ⟨rb, 2, none⟩ = some (.int .i64 r2) := hrow.cell (i := 2) (by decide)
      have q3 : w4.cell? ⟨rb, 3, none⟩ = some (.int .i64 r3) := hrow.cell (i := 3) (by decide)
      have pk : w4.cell? ⟨w.heap.size, k + 1, none⟩ = some (nwF tx B n k (k + 1)) := N4.out.cell (by omega)
      have fz := N4.out.frozen
      have i0 : (0 : Int) ≤ (k : Int) := by omega
      have i2 : (k : Int) < (most : Int) := by omega
      have i3 : (k : Int) < 4 := by omega
      have ek : 1 + k = k + 1 := by omega
      clear hval hrun hrow f4 f3
      go_region
      clear lk d2 lm q0 q1 q2 q3 pk fz
      have fd : Below (w4.setCell ⟨w.heap.size, k + 1, none⟩ (.pointer pa)).heap.size (w4.setCell ⟨w.heap.size, k + 1, none⟩ (.pointer pa)) (w4.setCell ⟨w.heap.size, k + 1, none⟩ (.pointer pa)).drew := (Below.refl _ _).drew
      have I5 := hidd ((I4.out.chg (Chg.of_set w4 w.heap.size (k + 1) (.pointer pa)) (fun b hb e => by have := LOW.out b hb; omega)).fresh fd)
      have R5 := hidd ((HRW.out.setOther (a := ⟨w.heap.size, k + 1, none⟩) (show rb ≠ w.heap.size by omega) (.pointer pa)).drew)
      have FD := hidd fd
      clear fd
      obtain ⟨w5, hw5⟩ : ∃ z, z = (w4.setCell ⟨w.heap.size, k + 1, none⟩ (.pointer pa)).drew := ⟨_, rfl⟩
      rw [← hw5] at I5 R5 FD
      rw [← hw5]
      clear hw5
      obtain ⟨w6, up, hp6, c6, _⟩ := ((I5.out.fresh (Below.refl _ w5).drew).map k (by omega)).upd HRUN.out (.pointer (some ⟨w.heap.size, 0, none⟩))
      rw [HKEY.out] at up
      rw [if_neg (by omega)] at hp6
      have HP6 := hidd hp6
      have C6 := hidd c6
      have d2 : w5.cell? ⟨X, 2, none⟩ = some (.slice (some ⟨Lb, 0, none⟩) most most) := I5.out.cells.2.2
      have lm : w5.cell? ⟨Lb, k, none⟩ = some (.map (some (M k))) := I5.out.lst.cell (by omega)
      have q0 : w5.cell? ⟨rb, 0, none⟩ = some (.int .i64 r0) := R5.out.cell (i := 0) (by decide)
      have q1 : w5.cell? ⟨rb, 1, none⟩ = some (.int .i64 r1) := R5.out.cell (i := 1) (by decide)
      have q2 : w5.cell? ⟨rb, 2, none⟩ = some (.int .i64 r2) := R5.out.cell (i := 2) (by decide)
      have q3 : w5.cell? ⟨rb, 3, none⟩ = some (.int .i64 r3) := R5.out.cell (i := 3) (by decide)
      clear hp6 c6
      go_wp2
      go_region
      clear up d2 lm q0 q1 q2 q3
      go_wp2
      go_roundw
      case rel =>
        refine ⟨k + 1, by omega, by go_num, ?_⟩
        have e9 := HVAL.out
        rw [← e9] at FD
        exact HE.out.step LOW.out HAn.out (by omega) (by omega) F4.out (fresh_trans FD.out (Below.refl _ w5).drew) C6.out HP6.out
      case measure => simp [intOf]; omega
    · obtain rfl : k = m := by omega
      have d1 := HE.out.en.ix.cells.2.1
      have HPL := hidd HE.out.en.ix.plc
      have HNC : Hid ((wr.alloc (.cells #[.pointer (some ⟨w.heap.size, 0, none⟩)] 64)).cell? ⟨wr.heap.size, 0, none⟩ = some (.pointer (some ⟨B (n + 1), 0, none⟩))) := by rw [HAn.out]; exact new_cell _ _ _
      have fX : ∀ j, wr.frozen? ⟨X, j, none⟩ = false := HE.out.en.ix.row.frozen
      go_wp2_with (at_builtin; refine wpList_app1 _ rfl _ _ 55 rfl 0 64 (.pointer none) 8 Try.underlying55 infoPP rfl _ n (fun j => .pointer (some ⟨B (j + 1), 0, none⟩)) rfl (HPL.out.kept (fresh_alloc _ _)) _ 1 rfl HNC.out rfl (by omega) (by omega) (Nat.zero_le _) ?_)
      intro pv' w6 ho ha
      have hD := HE.out.done hm1 hm2 LOW.out HAn.out (fresh_alloc wr (.cells #[.pointer (some ⟨w.heap.size, 0, none⟩)] 64)) ha ho
      have rX := (Chg.of_app ha).row (HE.out.en.ix.row.of_block ((fresh_alloc wr (.cells #[.pointer (some ⟨w.heap.size, 0, none⟩)] 64)).block _ HE.out.en.ix.row.lt)) (fun e => own_apart (HE.out.en.ix.fresh (fresh_alloc wr (.cells #[.pointer (some ⟨w.heap.size, 0, none⟩)] 64))).plc (HE.out.en.ix.fresh (fresh_alloc wr (.cells #[.pointer (some ⟨w.heap.size, 0, none⟩)] 64))).row (by decide) e rfl)
      have x1 : w6.cell? ⟨X, 1, none⟩ = some pv := rX.cell (i := 1) (by decide)
      have fX6 : ∀ j, w6.frozen? ⟨X, j, none⟩ = false := rX.frozen
      obtain ⟨u', c', rfl, _⟩ := ho.rd
      have HD := hidd hD
      clear hD rX HPL HNC HE d1 fX ho ha
      go_wp2
      go_end0
      exact ⟨rfl, _, B, _, HD.out.1, HD.out.2, fun b hb => .inl hb, fun b hb => hb.elim .inl (fun h => .inr h.1), HA.out⟩
end Go.Proofs.Ytbpldnlafilbbaa
