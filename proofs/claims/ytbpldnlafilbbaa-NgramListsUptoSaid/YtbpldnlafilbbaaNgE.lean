import Derived.Test.YtbpldnlafilbbaaNgD
namespace Go.Proofs.Ytbpldnlafilbbaa
open Go.RowKit
/-! Append. -/
theorem Ix.tokApp {w w5 w6 : World} {X : Nat} {S : Nat → Prop} {most nt np : Nat} {tx : Nat → Int} {A M : Nat → Nat} {Lb : Nat} {tv tv' pv : Value} {G : Nat → Value → Value} (h : Ix w X S most nt np tx A M Lb tv pv G)
    (f : Below w.heap.size w w5) (a : App w5 w6 tv tv') (o : Own w6 0 3 1 tv' (nt + 1) (fun j => .int .i64 (tx j))) (ht : fits (tx nt)) :
    Ix (w6.setCell ⟨X, 0, none⟩ tv') X (fun b => S b ∨ (w.heap.size ≤ b ∧ b < w6.heap.size)) most (nt + 1) np tx A M Lb tv' pv G ∧ Chg w (w6.setCell ⟨X, 0, none⟩ tv') S := by
  have i5 := h.fresh f
  have c6 := Chg.of_app a
  have row6 := c6.row i5.row (fun e => own_apart i5.tok i5.row (by decide) e rfl)
  have plc6 := i5.plc.chg c6 (fun b hb e => own_off i5.plc i5.tok (by decide) b hb e)
  have lst6 := c6.row i5.lst (fun e => own_apart i5.tok i5.lst (by decide) e rfl)
  have map6 : ∀ i, i < most → PMap w6 (M i) (G i) := fun i hi => (i5.map i hi).chg c6 (fun e => (i5.map i hi).offOwn i5.tok e rfl)
  have pls6 : ∀ q, 1 ≤ q → q ≤ np → w6.rowIs (A q) 69 5 (plF tx A most q) := fun q h1 h2 => c6.row (i5.pls q h1 h2) (fun e => own_apart i5.tok (i5.pls q h1 h2) (by decide) e rfl)
  have c7 := Chg.of_set w6 X 0 tv'
  have hs5 := f.size
  have hs6 := c6.size
  refine ⟨⟨?_, o.chg c7 (fun b hb e => own_apart o row6 (by decide) hb e), plc6.chg c7 (fun b hb e => own_apart plc6 row6 (by decide) hb e), c7.row lst6 (fun e => type_apart lst6 row6 (by decide) e), fun i hi => (map6 i hi).chg c7 (fun e => (map6 i hi).apart row6 e), fun q h1 h2 => c7.row (pls6 q h1 h2) (fun e => type_apart (pls6 q h1 h2) row6 (by decide) e), fun j hj => ?_, i5.dM, i5.hm, .inl i5.sX, .inl i5.sL, fun b hb => ?_, fun b hb => .inl (i5.sP b hb), fun i hi => .inl (i5.sM i hi), fun q h1 h2 => .inl (i5.sA q h1 h2), fun b hb => ?_⟩, ?_⟩
  · refine (row6.set 0 tv').congr (fun i _ => ?_)
    unfold ixF
    by_cases e : i = 0
    · subst e; rfl
    · rw [if_neg e, if_neg e, if_neg e]
  · by_cases e : j = nt
    · rw [e]; exact ht
    · exact i5.fit j (by omega)
  · rcases a.blk b hb with e | e
    · exact .inl (i5.sT b e)
    · exact .inr ⟨by omega, (o.lt b hb).2⟩
  · rw [World.size_setCell]
    rcases hb with hb | hb
    · have := h.low b hb; omega
    · exact hb.2
  · exact (((Chg.of_below S f)).trans c6 (fun x _ e => i5.sT x e)).trans c7 (fun x _ e => by rw [e]; exact i5.sX)
theorem Ix.text {w : World} {X : Nat} {S : Nat → Prop} {most n : Nat} {tx ty : Nat → Int} {A M : Nat → Nat} {Lb : Nat} {tv pv : Value} (h : Ix w X S most n n tx A M Lb tv pv (fun i => gm tx A n i)) (e : ∀ j, j < n → tx j = ty j) : Ix w X S most n n ty A M Lb tv pv (fun i => gm ty A n i) :=
  ⟨h.row, h.tok.congr (fun j hj => by rw [e j (by omega)]), h.plc, h.lst, fun i hi => (h.map i hi).congr (gm_congr e (fun _ _ _ => rfl) i), fun q h1 h2 => (h.pls q h1 h2).congr (fun j _ => plF_congr (fun r hr => e r (by omega)) (fun _ _ _ => rfl) j), fun j hj => by rw [← e j hj]; exact h.fit j hj, h.dM, h.hm, h.sX, h.sL, h.sT, h.sP, h.sM, h.sA, h.low⟩
/-- an index with its text, in memory of its own -/
structure Idx (w : World) (X : Nat) (S : Nat → Prop) (most n : Nat) (tx : Nat → Int) (A : Nat → Nat) : Prop where
  ex : ∃ M Lb tv pv, Ix w X S most n n tx A M Lb tv pv (fun i => gm tx A n i)
theorem Idx.chg {w w' : World} {X : Nat} {S : Nat → Prop} {most n : Nat} {tx : Nat → Int} {A : Nat → Nat} (h : Idx w X S most n tx A) {T : Nat → Prop} (c : Chg w w' T) (hT : ∀ b, S b → ¬ T b) : Idx w' X S most n tx A := by
  obtain ⟨M, Lb, tv, pv, h⟩ := h.ex
  exact ⟨⟨M, Lb, tv, pv, h.chg c hT⟩⟩
theorem Idx.fresh {w w' : World} {X : Nat} {S : Nat → Prop} {most n : Nat} {tx : Nat → Int} {A : Nat → Nat} (h : Idx w X S most n tx A) (f : Below w.heap.size w w') : Idx w' X S most n tx A := h.chg (Chg.of_below (fun _ => False) f) (fun _ _ t => t)
theorem Idx.text {w : World} {X : Nat} {S : Nat → Prop} {most n : Nat} {tx ty : Nat → Int} {A : Nat → Nat} (h : Idx w X S most n tx A) (e : ∀ j, j < n → tx j = ty j) : Idx w X S most n ty A := by
  obtain ⟨M, Lb, tv, pv, h⟩ := h.ex
  exact ⟨⟨M, Lb, tv, pv, h.text e⟩⟩
theorem Idx.low {w : World} {X : Nat} {S : Nat → Prop} {most n : Nat} {tx : Nat → Int} {A : Nat → Nat} (h : Idx w X S most n tx A) : ∀ b, S b → b < w.heap.size := by
  obtain ⟨M, Lb, tv, pv, h⟩ := h.ex
  exact h.low
/-- what a call leaves: the index with another text -/
structure IdP (w w' : World) (X : Nat) (S : Nat → Prop) (most n n' : Nat) (tx : Nat → Int) (A : Nat → Nat) : Prop where
  ex : ∃ S' A', Idx w' X S' most n' tx A' ∧ Chg w w' S ∧ (∀ b, S b → S' b) ∧ (∀ b, S' b → S b ∨ w.heap.size ≤ b) ∧ ∀ q, 1 ≤ q → q ≤ n → A' q = A q
/-- tokens t behind the first n of tx -/
def apT (tx : Nat → Int) (n : Nat) (t : Nat → Int) : Nat → Int := fun j => if j < n then tx j else t (j - n)
theorem apT_lt (tx : Nat → Int) {n : Nat} (t : Nat → Int) {j : Nat} (h : j < n) : apT tx n t j = tx j := if_pos h
theorem apT_ge (tx : Nat → Int) (n : Nat) (t : Nat → Int) (j : Nat) : apT tx n t (n + j) = t j := by
  unfold apT
  rw [if_neg (by omega)]
  congr 1
  omega
set_option maxRecDepth 20000 in
set_option maxHeartbeats 1600000 in
theorem append_nil (w : World) (ao : Option Addr) (m c : Nat) : Calls Try.prog 14 #[.pointer none, .slice ao m c] w fun e w' => e = .returned (.tuple #[]) ∧ w' = w := by
  go_enter Try.func14, Try.ntmps14
  go_wp2
  refine bodyPost_ret (results_none rfl _ _ _) rfl ?_
  exact ⟨rfl, rfl⟩
set_option maxRecDepth 20000 in
set_option maxHeartbeats 4000000 in
theorem append_any {w : World} {X : Nat} {S : Nat → Prop} {most n : Nat} {tx : Nat → Int} {A : Nat → Nat} (h : Idx w X S most n tx A) {ao : Option Addr} {m c : Nat} {t : Nat → Int} (ht : RdA w ao 1 m c (fun i => .int .i64 (t i))) (hS : ∀ b o, ao = some ⟨b, o, none⟩ → 0 < m → ¬ S b) (hf : ∀ i, i < m → fits (t i)) (hn : (n + m) * 8 ≤ 140737488351232) :
    Calls Try.prog 14 #[.pointer (some ⟨X, 0, none⟩), .slice ao m c] w fun e w' => e = .returned (.tuple #[]) ∧ IdP w w' X S most n (n + m) (apT tx n t) A := by
  have h0 : IdP w w X S most n (n + 0) (apT tx n t) A := ⟨S, A, h.text (fun j hj => (apT_lt tx t hj).symm), Chg.refl w S, fun _ hb => hb, fun _ hb => .inl hb, fun _ _ _ => rfl⟩
  have HT := hidd ht
  have HS := hidd hS
  have HF := hidd hf
  have H0 := hidd h0
  have HLOW := hidd h.low
  have hmc := ht.le
  have hct := ht.top
  unfold maxLen at hct
  obtain ⟨ty, hty⟩ : ∃ ty, ty = apT tx n t := ⟨_, rfl⟩
  have HTY : Hid (∀ j, ty (n + j) = t j) := fun j => by rw [hty]; exact apT_ge tx n t j
  rw [← hty] at H0 ⊢
  clear h h0 ht hS hf hty
  go_enter Try.func14, Try.ntmps14
  go_wp2
  go_loopw [10] (fun i wr => ∃ k : Nat, k ≤ m ∧ i = .int .i64 k ∧ Hid (IdP w wr X S most n (n + k) ty A)) (fun i _ => m - (intOf i).toNat)
  case atStart => exact ⟨0, by omega, rfl, H0⟩
  case round =>
    clear H0
    obtain ⟨k, hk, rfl, HI⟩ := hrel
    by_cases hlt : k < m
    · obtain ⟨S1, A1, hidx, hc1, hs1, hs2, hA1⟩ := HI.out.ex
      obtain ⟨M, Lb, tv, pv, hix⟩ := hidx.ex
      obtain ⟨b, o, hao, hcell⟩ := HT.out.one (by omega)
      subst hao
      have i1 : (k : Int) < (m : Int) := by omega
      have hbS : ¬ S b := HS.out b o rfl (by omega)
      have hbl : b < w.heap.size := lt_of_cell (hcell 0 (by omega))
      have ck : wr.cell? ⟨b, o + k, none⟩ = some (.int .i64 (t k)) := hc1.cell (hcell k hlt) hbS
      have d0 := hix.cells.1
      have HIX := hidd hix
      have HTK : Hid (ty (n + k) = t k) := HTY.out k
      have HFT : Hid (fits (ty (n + k))) := by show fits _; rw [HTK.out]; exact HF.out k hlt
      have HNC : Hid ((wr.alloc (.cells #[.int .i64 (t k)] 3)).cell? ⟨wr.heap.size, 0, none⟩ = some (.int .i64 (ty (n + k)))) := by rw [HTK.out]; exact new_cell _ _ _
      have HW := hidd (And.intro hc1 (And.intro hs1 (And.intro hs2 hA1)))
      clear hcell hix hidx hc1 hs1 hs2 hA1 HI
      go_wp2_with (at_builtin; refine wpList_app1 _ rfl _ _ 22 rfl 0 3 (.int .i64 0) 8 Try.underlying22 infoI rfl _ (n + k) (fun j => .int .i64 (ty j)) rfl (HIX.out.tok.kept (fresh_alloc _ _)) _ 1 rfl HNC.out rfl (by omega) (by omega) (Nat.zero_le _) ?_)
      intro tv' w6 ho ha
      have hD := HIX.out.tokApp (fresh_alloc wr (.cells #[.int .i64 (t k)] 3)) ha ho HFT.out
      have rX := (Chg.of_app ha).row (HIX.out.row.of_block ((fresh_alloc wr (.cells #[.int .i64 (t k)] 3)).block _ HIX.out.row.lt)) (fun e => own_apart (HIX.out.fresh (fresh_alloc wr (.cells #[.int .i64 (t k)] 3))).tok (HIX.out.fresh (fresh_alloc wr (.cells #[.int .i64 (t k)] 3))).row (by decide) e rfl)
      have x0 : w6.cell? ⟨X, 0, none⟩ = some tv := rX.cell (i := 0) (by decide)
      have fX6 : ∀ j, w6.frozen? ⟨X, j, none⟩ = false := rX.frozen
      obtain ⟨u', c', rfl, _⟩ := ho.rd
      have HD := hidd hD
      have HEN := hidd (enter_any (n := n + k) hD.1 (by omega))
      have hsz : wr.heap.size ≤ w6.heap.size := by have h1 := (Chg.of_app ha).size; simp at h1; omega
      clear hD rX d0 ck ho ha HNC
      go_wp2_with (go_at_call 29; refine HEN.out.mono ?_; rintro e w8 ⟨rfl, S8, A8, pv8, hI8, hc8, hs81, hs82, hA8⟩)
      go_roundw
      case rel =>
        obtain ⟨g1, g2, g3, g4⟩ := HW.out
        have hszw : w.heap.size ≤ wr.heap.size := g1.size
        refine ⟨k + 1, by omega, by go_num, S8, A8, ⟨M, Lb, _, pv8, hI8⟩, ?_, fun b hb => hs81 b (.inl (g2 b hb)), fun b hb => ?_, fun q h1 h2 => ?_⟩
        · refine (g1.trans HD.out.2 (fun x hx hS1 => (g3 x hS1).elim id (fun h => absurd h (by omega)))).trans hc8 (fun x hx hSx => ?_)
          rcases hSx with hSx | hSx
          · exact (g3 x hSx).elim id (fun h => absurd h (by omega))
          · omega
        · rcases hs82 b hb with (h1 | h1) | h1
          · exact g3 b h1
          · exact .inr (by omega)
          · rw [World.size_setCell] at h1
            exact .inr (by omega)
        · rw [hA8 q h1 (by omega)]
          exact g4 q h1 h2
      case measure => simp [intOf]; omega
    · obtain rfl : k = m := by omega
      go_wp2
      go_end0
      exact ⟨rfl, HI.out⟩
end Go.Proofs.Ytbpldnlafilbbaa
