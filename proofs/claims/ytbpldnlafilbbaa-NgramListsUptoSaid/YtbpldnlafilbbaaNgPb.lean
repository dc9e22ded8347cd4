import Derived.Test.YtbpldnlafilbbaaNgPa
import Derived.Test.YtbpldnlafilbbaaNgH
namespace Go.Proofs.Ytbpldnlafilbbaa
open Go.RowKit
theorem Ix.tokAppP {w w5 w6 : World} {X : Nat} {S : Nat → Prop} {most nt np : Nat} {tx : Nat → Int} {A M : Nat → Nat} {Lb : Nat} {tv tv' pv : Value} {G : Nat → Value → Value} (h : Ix w X S most nt np tx A M Lb tv pv G)
    (f : Below w.heap.size w w5) (a : App w5 w6 tv tv') (o : Own w6 0 3 1 tv' (nt + 1) (fun j => .int .i64 (tx j))) (ht : fits (tx nt)) :
    Ix (w6.setCell ⟨X, 0, none⟩ tv') X (fun b => S b ∨ (w.heap.size ≤ b ∧ b < w6.heap.size)) most (nt + 1) np tx A M Lb tv' pv G ∧ ChgP w (w6.setCell ⟨X, 0, none⟩ tv') S := by
  have i5 := h.fresh f
  have c6 := Chg.of_app a
  have row6 := c6.row i5.row (fun e => own_apart i5.tok i5.row (by decide) e rfl)
  have c7 := Chg.of_set w6 X 0 tv'
  refine ⟨(h.tokApp f a o ht).1, ?_⟩
  exact ((ChgP.of_below S f).trans c6 (fun x _ e => ⟨i5.sT x e, not_plO i5.tok (by decide) e⟩)).trans c7 (fun x _ e => by rw [e]; exact ⟨i5.sX, not_pl row6 (by decide)⟩)
/-- an index with its text, its maps and their list named -/
structure IdM (w : World) (X : Nat) (S : Nat → Prop) (most n : Nat) (tx : Nat → Int) (A M : Nat → Nat) (Lb : Nat) : Prop where
  ex : ∃ tv pv, Ix w X S most n n tx A M Lb tv pv (fun i => gm tx A n i)
section
variable {w w' : World} {X : Nat} {S : Nat → Prop} {most n : Nat} {tx ty : Nat → Int} {A M : Nat → Nat} {Lb : Nat}
theorem IdM.idx (h : IdM w X S most n tx A M Lb) : Idx w X S most n tx A := by
  obtain ⟨tv, pv, h⟩ := h.ex
  exact ⟨⟨M, Lb, tv, pv, h⟩⟩
theorem Idx.idm (h : Idx w X S most n tx A) : ∃ M Lb, IdM w X S most n tx A M Lb := by
  obtain ⟨M, Lb, tv, pv, h⟩ := h.ex
  exact ⟨M, Lb, ⟨tv, pv, h⟩⟩
theorem IdM.chg (h : IdM w X S most n tx A M Lb) {T : Nat → Prop} (c : Chg w w' T) (hT : ∀ b, S b → ¬ T b) : IdM w' X S most n tx A M Lb := by
  obtain ⟨tv, pv, h⟩ := h.ex
  exact ⟨⟨tv, pv, h.chg c hT⟩⟩
theorem IdM.fresh (h : IdM w X S most n tx A M Lb) (f : Below w.heap.size w w') : IdM w' X S most n tx A M Lb := h.chg (Chg.of_below (fun _ => False) f) (fun _ _ t => t)
theorem IdM.text (h : IdM w X S most n tx A M Lb) (e : ∀ j, j < n → tx j = ty j) : IdM w X S most n ty A M Lb := by
  obtain ⟨tv, pv, h⟩ := h.ex
  exact ⟨⟨tv, pv, h.text e⟩⟩
theorem IdM.low (h : IdM w X S most n tx A M Lb) : ∀ b, S b → b < w.heap.size := h.idx.low
theorem IdM.tlen (h : IdM w X S most n tx A M Lb) : Go.Proofs.Ytbpldnlafilbbaa.tlen w X = n := h.idx.tlen
/-- the blocks that an index has, and no others -/
def own9 (X Lb most n : Nat) (M A : Nat → Nat) (tv pv : Value) : Nat → Prop := fun b => b = X ∨ b = Lb ∨ tv.ownBlock = some b ∨ pv.ownBlock = some b ∨ (∃ i, i < most ∧ b = M i) ∨ ∃ q, 1 ≤ q ∧ q ≤ n ∧ b = A q
theorem IdM.tight (h : IdM w X S most n tx A M Lb) : ∃ S', IdM w X S' most n tx A M Lb ∧ (∀ b, S' b → S b) ∧ ∀ b, S' b → (∃ i, i < most ∧ b = M i) ∨ ∃ o, w.heap[b]? = some o ∧ o.isCells = true := by
  obtain ⟨tv, pv, h⟩ := h.ex
  have hS : ∀ b, own9 X Lb most n M A tv pv b → S b := fun b hb => by
    rcases hb with rfl | rfl | hb | hb | ⟨i, hi, rfl⟩ | ⟨q, h1, h2, rfl⟩
    · exact h.sX
    · exact h.sL
    · exact h.sT b hb
    · exact h.sP b hb
    · exact h.sM i hi
    · exact h.sA q h1 h2
  refine ⟨own9 X Lb most n M A tv pv, ⟨⟨tv, pv, h.row, h.tok, h.plc, h.lst, h.map, h.pls, h.fit, h.dM, h.hm, .inl rfl, .inr (.inl rfl), fun b hb => .inr (.inr (.inl hb)), fun b hb => .inr (.inr (.inr (.inl hb))), fun i hi => .inr (.inr (.inr (.inr (.inl ⟨i, hi, rfl⟩)))), fun q h1 h2 => .inr (.inr (.inr (.inr (.inr ⟨q, h1, h2, rfl⟩)))), fun b hb => h.low b (hS b hb)⟩⟩, hS, fun b hb => ?_⟩
  have hrow : ∀ {c : Nat} {t : TypeId} {m : Nat} {f : Nat → Value}, w.rowIs c t m f → ∃ o, w.heap[c]? = some o ∧ o.isCells = true := fun hr => by
    obtain ⟨y, hy, _⟩ := hr
    exact ⟨_, hy, rfl⟩
  rcases hb with rfl | rfl | hb | hb | ⟨i, hi, rfl⟩ | ⟨q, h1, h2, rfl⟩
  · exact .inr (hrow h.row)
  · exact .inr (hrow h.lst)
  · exact .inr ⟨_, (own_type h.tok hb).choose_spec.choose_spec, rfl⟩
  · exact .inr ⟨_, (own_type h.plc hb).choose_spec.choose_spec, rfl⟩
  · exact .inl ⟨i, hi, rfl⟩
  · exact .inr (hrow (h.pls q h1 h2))
end
/-- what a call leaves: the index with another text; no place was written -/
structure IdQ (w w' : World) (X : Nat) (S : Nat → Prop) (most n n' : Nat) (tx : Nat → Int) (A M : Nat → Nat) (Lb : Nat) : Prop where
  ex : ∃ S' A', IdM w' X S' most n' tx A' M Lb ∧ ChgP w w' S ∧ (∀ b, S b → S' b) ∧ (∀ b, S' b → S b ∨ w.heap.size ≤ b) ∧ ∀ q, 1 ≤ q → q ≤ n → A' q = A q
set_option maxRecDepth 20000 in
set_option maxHeartbeats 4000000 in
theorem appendP_any {w : World} {X : Nat} {S : Nat → Prop} {most n : Nat} {tx : Nat → Int} {A M : Nat → Nat} {Lb : Nat} (h : IdM w X S most n tx A M Lb) {ao : Option Addr} {m c : Nat} {t : Nat → Int} (ht : RdA w ao 1 m c (fun i => .int .i64 (t i))) (hS : ∀ b o, ao = some ⟨b, o, none⟩ → 0 < m → ¬ S b) (hf : ∀ i, i < m → fits (t i)) (hn : (n + m) * 8 ≤ 140737488351232) :
    Calls Try.prog 14 #[.pointer (some ⟨X, 0, none⟩), .slice ao m c] w fun e w' => e = .returned (.tuple #[]) ∧ IdQ w w' X S most n (n + m) (apT tx n t) A M Lb := by
  have h0 : IdQ w w X S most n (n + 0) (apT tx n t) A M Lb := ⟨S, A, h.text (fun j hj => (apT_lt tx t hj).symm), ChgP.refl w S, fun _ hb => hb, fun _ hb => .inl hb, fun _ _ _ => rfl⟩
  have HT := hidd ht
  have HS := hidd hS
  have HF := hidd hf
  have H0 := hidd h0
  have HLOW := hidd h.low
  have hmc := ht.le
  have hct := ht.top
  unfold maxLen at hct
  obtain ⟨ty, hty⟩ : ∃ ty, ty = apT tx n t := ⟨_, rfl⟩
  have HTY : Hid (∀ j, ty (n + j) = t j) := fun j => by rw [hty]; exact apT_ge tx n t j
  rw [← hty] at H0 ⊢
  clear h h0 ht hS hf hty
  go_enter Try.func14, Try.ntmps14
  go_wp2
  go_loopw [10] (fun i wr => ∃ k : Nat, k ≤ m ∧ i = .int .i64 k ∧ Hid (IdQ w wr X S most n (n + k) ty A M Lb)) (fun i _ => m - (intOf i).toNat)
  case atStart => exact ⟨0, by omega, rfl, H0⟩
  case round =>
    clear H0
    obtain ⟨k, hk, rfl, HI⟩ := hrel
    by_cases hlt : k < m
    · obtain ⟨S1, A1, hidx, hc1, hs1, hs2, hA1⟩ := HI.out.ex
      obtain ⟨tv, pv, hix⟩ := hidx.ex
      obtain ⟨b, o, hao, hcell⟩ := HT.out.one (by omega)
      subst hao
      have i1 : (k : Int) < (m : Int) := by omega
      have hbS : ¬ S b := HS.out b o rfl (by omega)
      have hbl : b < w.heap.size := lt_of_cell (hcell 0 (by omega))
      have ck : wr.cell? ⟨b, o + k, none⟩ = some (.int .i64 (t k)) := hc1.chg.cell (hcell k hlt) hbS
      have d0 := hix.cells.1
      have HIX := hidd hix
      have HTK : Hid (ty (n + k) = t k) := HTY.out k
      have HFT : Hid (fits (ty (n + k))) := by show fits _; rw [HTK.out]; exact HF.out k hlt
      have HNC : Hid ((wr.alloc (.cells #[.int .i64 (t k)] 3)).cell? ⟨wr.heap.size, 0, none⟩ = some (.int .i64 (ty (n + k)))) := by rw [HTK.out]; exact new_cell _ _ _
      have HW := hidd (And.intro hc1 (And.intro hs1 (And.intro hs2 hA1)))
      clear hcell hix hidx hc1 hs1 hs2 hA1 HI
      go_wp2_with (at_builtin; refine wpList_app1 _ rfl _ _ 22 rfl 0 3 (.int .i64 0) 8 Try.underlying22 infoI rfl _ (n + k) (fun j => .int .i64 (ty j)) rfl (HIX.out.tok.kept (fresh_alloc _ _)) _ 1 rfl HNC.out rfl (by omega) (by omega) (Nat.zero_le _) ?_)
      intro tv' w6 ho ha
      have hD := HIX.out.tokAppP (fresh_alloc wr (.cells #[.int .i64 (t k)] 3)) ha ho HFT.out
      have rX := (Chg.of_app ha).row (HIX.out.row.of_block ((fresh_alloc wr (.cells #[.int .i64 (t k)] 3)).block _ HIX.out.row.lt)) (fun e => own_apart (HIX.out.fresh (fresh_alloc wr (.cells #[.int .i64 (t k)] 3))).tok (HIX.out.fresh (fresh_alloc wr (.cells #[.int .i64 (t k)] 3))).row (by decide) e rfl)
      have x0 : w6.cell? ⟨X, 0, none⟩ = some tv := rX.cell (i := 0) (by decide)
      have fX6 : ∀ j, w6.frozen? ⟨X, j, none⟩ = false := rX.frozen
      obtain ⟨u', c', rfl, _⟩ := ho.rd
      have HD := hidd hD
      have HEN := hidd (enterP_any (n := n + k) hD.1 (by omega))
      have hsz : wr.heap.size ≤ w6.heap.size := by have h1 := (Chg.of_app ha).size; simp at h1; omega
      clear hD rX d0 ck ho ha HNC
      go_wp2_with (go_at_call 29; refine HEN.out.mono ?_; rintro e w8 ⟨rfl, S8, A8, pv8, hI8, hc8, hs81, hs82, hA8⟩)
      go_roundw
      case rel =>
        obtain ⟨g1, g2, g3, g4⟩ := HW.out
        have hszw : w.heap.size ≤ wr.heap.size := g1.chg.size
        refine ⟨k + 1, by omega, by go_num, S8, A8, ⟨_, pv8, hI8⟩, ?_, fun b hb => hs81 b (.inl (g2 b hb)), fun b hb => ?_, fun q h1 h2 => ?_⟩
        · refine (g1.transP HD.out.2 (fun x hx hS1 => (g3 x hS1).elim id (fun h => absurd h (by omega)))).transP hc8 (fun x hx hSx => ?_)
          rcases hSx with hSx | hSx
          · exact (g3 x hSx).elim id (fun h => absurd h (by omega))
          · omega
        · rcases hs82 b hb with (h1 | h1) | h1
          · exact g3 b h1
          · exact .inr (by omega)
          · rw [World.size_setCell] at h1
            exact .inr (by omega)
        · rw [hA8 q h1 (by omega)]
          exact g4 q h1 h2
      case measure => simp [intOf]; omega
    · obtain rfl : k = m := by omega
      go_wp2
      go_end0
      exact ⟨rfl, HI.out⟩
end Go.Proofs.Ytbpldnlafilbbaa
