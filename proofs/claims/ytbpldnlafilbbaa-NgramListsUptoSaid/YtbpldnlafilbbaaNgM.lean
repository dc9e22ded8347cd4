import Derived.Test.YtbpldnlafilbbaaNgL
namespace Go.Proofs.Ytbpldnlafilbbaa
open Go.RowKit
/-! Cut. -/
theorem Ix.tokCut {w : World} {X : Nat} {S : Nat → Prop} {most n : Nat} {tx : Nat → Int} {A M : Nat → Nat} {Lb : Nat} {tb tc : Nat} {pv : Value} {G : Nat → Value → Value} (h : Ix w X S most (n + 1) n tx A M Lb (.slice (some ⟨tb, 0, none⟩) (n + 1) tc) pv G) :
    Ix (w.setCell ⟨X, 0, none⟩ (.slice (some ⟨tb, 0, none⟩) n tc)) X S most n n tx A M Lb (.slice (some ⟨tb, 0, none⟩) n tc) pv G ∧ Chg w (w.setCell ⟨X, 0, none⟩ (.slice (some ⟨tb, 0, none⟩) n tc)) S := by
  have c7 := Chg.of_set w X 0 (.slice (some ⟨tb, 0, none⟩) n tc)
  have tok6 := h.tok.shrink (k := n) (by omega)
  refine ⟨⟨?_, tok6.chg c7 (fun b hb e => own_apart tok6 h.row (by decide) hb e), h.plc.chg c7 (fun b hb e => own_apart h.plc h.row (by decide) hb e), c7.row h.lst (fun e => type_apart h.lst h.row (by decide) e), fun i hi => (h.map i hi).chg c7 (fun e => (h.map i hi).apart h.row e), fun q h1 h2 => c7.row (h.pls q h1 h2) (fun e => type_apart (h.pls q h1 h2) h.row (by decide) e), fun j hj => h.fit j (by omega), h.dM, h.hm, h.sX, h.sL, fun b hb => ?_, h.sP, h.sM, h.sA, fun b hb => ?_⟩, ?_⟩
  · refine (h.row.set 0 _).congr (fun i _ => ?_)
    unfold ixF
    by_cases e : i = 0
    · subst e; rfl
    · rw [if_neg e, if_neg e, if_neg e]
  · refine h.sT b ?_
    simp [Value.ownBlock] at hb ⊢
    exact hb
  · rw [World.size_setCell]
    exact h.low b hb
  · exact c7.imp (fun x _ e => by rw [e]; exact h.sX)
theorem max2 {a m : Int} (h : m = max a 0) (ats : Array TypeId) (ty : TypeId) (w : World) : (Builtin.max_ ats ty #[.int .i64 a, .int .i64 0]).run Try.prog w = .ok (.int .i64 m) w := by
  have : (Builtin.max_ ats ty #[.int .i64 a, .int .i64 0]).run Try.prog w = .ok (.int .i64 (if a < 0 then 0 else a)) w := by simp [Builtin.max_, Builtin.max2]
  rw [this]
  congr 2
  rw [h]
  split <;> omega
def tlen (w : World) (X : Nat) : Nat := match w.cell? ⟨X, 0, none⟩ with
  | some (.slice _ n _) => n
  | _ => 0
theorem tlen_eq {w : World} {X n c : Nat} {u : Option Addr} (h : w.cell? ⟨X, 0, none⟩ = some (.slice u n c)) : tlen w X = n := by unfold tlen; rw [h]
theorem Idx.tlen {w : World} {X : Nat} {S : Nat → Prop} {most n : Nat} {tx : Nat → Int} {A : Nat → Nat} (h : Idx w X S most n tx A) : tlen w X = n := by
  obtain ⟨M, Lb, tv, pv, hix⟩ := h.ex
  obtain ⟨u, cap, htv, _⟩ := hix.tok.rd
  have := hix.cells.1
  rw [htv] at this
  exact tlen_eq this
set_option maxRecDepth 20000 in
set_option maxHeartbeats 4000000 in
theorem cut_nil (w : World) (k : Int) : Calls Try.prog 18 #[.pointer none, .int .i64 k] w fun e w' => e = .returned (.tuple #[]) ∧ w' = w := by
  have hmx := max2 (a := k) (m := (k.toNat : Int)) (by omega)
  have hd : decide ((k.toNat : Int) < 0) = false := decide_eq_false (by omega)
  have HL := hidd (len_nil w)
  go_enter Try.func18, Try.ntmps18
  go_wp2
  go_loopw [4] (fun _ wr => wr = w) (fun _ _ => 0)
  case atStart => exact rfl
  case round =>
    subst hrel
    go_wp2_with (go_at_call 17; refine HL.out.mono ?_; rintro e w2 ⟨rfl, rfl⟩)
    go_end0
    exact ⟨rfl, rfl⟩
set_option maxRecDepth 20000 in
set_option maxHeartbeats 4000000 in
theorem cut_any {w : World} {X : Nat} {S : Nat → Prop} {most n : Nat} {tx : Nat → Int} {A : Nat → Nat} (h : Idx w X S most n tx A) (k : Int) :
    Calls Try.prog 18 #[.pointer (some ⟨X, 0, none⟩), .int .i64 k] w fun e w' => e = .returned (.tuple #[]) ∧ Idx w' X S most (Nat.min n k.toNat) tx A ∧ Chg w w' S := by
  have hmx := max2 (a := k) (m := (k.toNat : Int)) (by omega)
  have H0 := hidd h
  obtain ⟨kk, hkk⟩ : ∃ kk, kk = k.toNat := ⟨_, rfl⟩
  rw [← hkk] at hmx ⊢
  clear h hkk
  go_enter Try.func18, Try.ntmps18
  go_wp2
  go_loopw [4] (fun _ wr => ∃ j, Nat.min n kk ≤ j ∧ j ≤ n ∧ Hid (Idx wr X S most j tx A) ∧ Hid (Chg w wr S)) (fun _ wr => tlen wr X)
  case atStart => exact ⟨n, Nat.min_le_left _ _, Nat.le_refl _, H0, Chg.refl w S⟩
  case round =>
    clear H0
    obtain ⟨j, hj1, hj2, HI, HC⟩ := hrel
    obtain ⟨M, Lb, tv, pv, hix⟩ := HI.out.ex
    obtain ⟨u, cap, htv, hrd⟩ := hix.tok.rd
    have c0 := hix.cells.1
    rw [htv] at c0
    have HL := hidd (len_at c0)
    have HTL : Hid (tlen wr X = j) := HI.out.tlen
    have hmin : Nat.min n kk = n ∨ Nat.min n kk = kk := by show min n kk = n ∨ min n kk = kk; omega
    have hmin2 : Nat.min n kk ≤ n ∧ Nat.min n kk ≤ kk := ⟨Nat.min_le_left _ _, Nat.min_le_right _ _⟩
    by_cases hgt : kk < j
    · have hd : decide ((kk : Int) < (j : Int)) = true := decide_eq_true (by omega)
      obtain ⟨jj, hjj⟩ : ∃ jj, j = jj + 1 := ⟨j - 1, by omega⟩
      subst hjj
      subst htv
      have hle := hrd.le
      have htop := hrd.top
      unfold maxLen at htop
      have htok := hix.tok
      obtain ⟨tb, hu, h91, h92, h93, h94⟩ := htok.at_ (by omega)
      subst hu
      have HLV := hidd (leave_any hix)
      have e1 : (((jj + 1 : Nat) : Int)) - 1 = (jj : Int) := by omega
      have hwr : IntKind.i64.wrap (jj : Int) = (jj : Int) := wrap_small _ (by omega) (by omega)
      have i0 : (0 : Int) ≤ (jj : Int) := by omega
      have i1 : (jj : Int) ≤ (cap : Int) := by omega
      clear hix hrd htok h91 h92 h93 h94 c0
      go_wp2_with (first | (go_at_call 17; refine HL.out.mono ?_; rintro e w2 ⟨rfl, rfl⟩) | (go_at_call 30; refine HLV.out.mono ?_; rintro e w3 ⟨rfl, pv', hI3, hC3⟩))
      have x0 : w3.cell? ⟨X, 0, none⟩ = some (.slice (some ⟨tb, 0, none⟩) (jj + 1) cap) := hI3.cells.1
      have fX := hI3.row.frozen
      have HD := hidd hI3.tokCut
      have HC3 := hidd hC3
      have HMM := hidd (show Idx (w3.setCell ⟨X, 0, none⟩ (.slice (some ⟨tb, 0, none⟩) jj cap)) X S most jj tx A from ⟨M, Lb, _, pv', hI3.tokCut.1⟩)
      clear hI3 hC3
      go_region
      have HFIN := hidd (HMM.out.fresh (Below.refl _ _).drew)
      have HCF := hidd (((HC.out.trans HC3.out (fun _ _ s => s)).trans HD.out.2 (fun _ _ s => s)).post (Below.refl _ _).drew)
      clear x0 fX HD HMM HC3
      generalize (w3.setCell ⟨X, 0, none⟩ (.slice (some ⟨tb, 0, none⟩) jj cap)).drew = w5 at *
      go_wp2
      go_roundw
      case rel => exact ⟨jj, by omega, by omega, HFIN, HCF⟩
      case measure =>
        rw [HTL.out, HFIN.out.tlen]
        omega
    · have hd : decide ((kk : Int) < (j : Int)) = false := decide_eq_false (by omega)
      have hjm : Nat.min n kk = j := by omega
      clear hix hrd c0
      go_wp2_with (go_at_call 17; refine HL.out.mono ?_; rintro e w2 ⟨rfl, rfl⟩)
      go_end0
      rw [hjm]
      exact ⟨rfl, HI.out, HC.out⟩
end Go.Proofs.Ytbpldnlafilbbaa
