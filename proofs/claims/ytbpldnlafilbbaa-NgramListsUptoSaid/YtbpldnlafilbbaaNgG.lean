import Derived.Test.YtbpldnlafilbbaaNgF
namespace Go.Proofs.Ytbpldnlafilbbaa
open Go.RowKit
/-! endRun. -/
open Classical in
noncomputable def erL (tx : Nat → Int) (n : Nat) : Nat → Nat
  | 0 => 0
  | l + 1 => if ear tx n l = none then erL tx n l else l + 1
theorem erL_le (tx : Nat → Int) (n : Nat) : ∀ l, erL tx n l ≤ l
  | 0 => Nat.le_refl _
  | l + 1 => by
    unfold erL
    have := erL_le tx n l
    split <;> omega
theorem erL_none {tx : Nat → Int} {n l : Nat} (h : ear tx n l = none) : erL tx n (l + 1) = erL tx n l := if_pos h
theorem erL_some {tx : Nat → Int} {n l q : Nat} (h : ear tx n l = some q) : erL tx n (l + 1) = l + 1 := if_neg (by rw [h]; simp)
theorem erL_at {tx : Nat → Int} {n : Nat} : ∀ {l k : Nat}, erL tx n l = k + 1 → ∃ q, ear tx n k = some q
  | 0, k, h => by cases h
  | l + 1, k, h => by
    cases e : ear tx n l with
    | none =>
      rw [erL_none e] at h
      exact erL_at h
    | some q =>
      rw [erL_some e] at h
      cases h
      exact ⟨q, e⟩
theorem erL_gone {tx : Nat → Int} {n : Nat} : ∀ {l k : Nat}, erL tx n l ≤ k → k < l → ear tx n k = none
  | 0, k, _, h => absurd h (by omega)
  | l + 1, k, h, hk => by
    cases e : ear tx n l with
    | none =>
      rw [erL_none e] at h
      by_cases ek : k = l
      · rw [ek]; exact e
      · exact erL_gone h (by omega)
    | some q =>
      rw [erL_some e] at h
      omega
noncomputable def endL (tx : Nat → Int) (most n : Nat) : Nat := erL tx n (Nat.min n most)
theorem endL_le (tx : Nat → Int) (most n : Nat) : endL tx most n ≤ n ∧ endL tx most n ≤ most := by
  have h1 := erL_le tx n (Nat.min n most)
  have h2 : Nat.min n most ≤ n := Nat.min_le_left _ _
  have h3 : Nat.min n most ≤ most := Nat.min_le_right _ _
  unfold endL
  omega
theorem ptr_nil (pa : Option Addr) (w : World) : (binOp .eql 64 (.pointer pa) (.pointer none)).run Try.prog w = .ok (.bool (decide (pa = none))) w := by
  cases pa <;> rfl
set_option maxRecDepth 20000 in
set_option maxHeartbeats 1600000 in
theorem endRun_nil (w : World) : Calls Try.prog 32 #[.pointer none] w fun e w' => e = .returned (.tuple #[.pointer none, .int .i64 0]) ∧ w' = w := by
  have HL := hidd (len_nil w)
  go_enter Try.func32, Try.ntmps32
  go_wp2_with (go_at_call 17; refine HL.out.mono ?_; rintro e w2 ⟨rfl, rfl⟩)
  go_ret2
  exact ⟨rfl, rfl⟩
set_option maxRecDepth 20000 in
set_option maxHeartbeats 4000000 in
theorem endRun_any {w : World} {X : Nat} {S : Nat → Prop} {most n : Nat} {tx : Nat → Int} {A : Nat → Nat} (h : Idx w X S most n tx A) :
    Calls Try.prog 32 #[.pointer (some ⟨X, 0, none⟩)] w fun e w' => e = .returned (.tuple #[if n = 0 then .pointer none else .pointer (some ⟨A n, 0, none⟩), .int .i64 (endL tx most n)]) ∧ Below w.heap.size w w' := by
  obtain ⟨M, Lb, tv, pv, hix⟩ := h.ex
  obtain ⟨d0, d1, d2⟩ := hix.cells
  obtain ⟨u, cap, htv, hrd⟩ := hix.tok.rd
  rw [htv] at d0
  have HL := hidd (len_at d0)
  by_cases hn : n = 0
  · subst hn
    have e0 : endL tx most 0 = 0 := by have := (endL_le tx most 0).1; omega
    rw [e0, if_pos rfl]
    clear d1 d2 hix h
    go_enter Try.func32, Try.ntmps32
    go_wp2_with (go_at_call 17; refine HL.out.mono ?_; rintro e w2 ⟨rfl, rfl⟩)
    go_ret2
    exact ⟨rfl, Below.refl _ _⟩
  · rw [if_neg hn]
    have hpl := hix.plc
    obtain ⟨u2, cap2, hpv, hrd2⟩ := hix.plc.rd
    rw [hpv] at hpl d1
    obtain ⟨pb, hu2, _, _, hpc, _⟩ := hpl.at_ (by omega)
    subst hu2
    have hle := hrd2.le
    have htop := hrd2.top
    unfold maxLen at htop
    have cl : w.cell? ⟨pb, n - 1, none⟩ = some (.pointer (some ⟨A n, 0, none⟩)) := by
      have := hpc (n - 1) (by omega)
      rw [show n - 1 + 1 = n by omega] at this
      exact this
    have HP := hidd (hix.pls n (by omega) (Nat.le_refl _))
    have a0 : w.cell? ⟨A n, 0, none⟩ = some (.int .i64 n) := HP.out.cell (i := 0) (by decide)
    have hm := hix.hm
    obtain ⟨m, hmm⟩ : ∃ m, m = Nat.min n most := ⟨_, rfl⟩
    have hm1 : m ≤ n ∧ m ≤ most := by rw [hmm]; exact ⟨Nat.min_le_left _ _, Nat.min_le_right _ _⟩
    have HEN : Hid (endL tx most n = erL tx n m) := by rw [hmm]; rfl
    rw [HEN.out]
    have HLG : Hid (∀ z : World, z.cell? ⟨X, 2, none⟩ = some (.slice (some ⟨Lb, 0, none⟩) most most) → Calls Try.prog 33 #[.pointer (some ⟨X, 0, none⟩), .int .i64 (n : Int)] z fun e w' => e = .returned (.int .i64 m) ∧ w' = z) := fun z hz => by
      rw [hmm]
      exact longest_at hz n
    have hn0 : ((n : Int) == 0) = false := by simpa using hn
    have e1 : (n : Int) - 1 = ((n - 1 : Nat) : Int) := by omega
    have hwr : IntKind.i64.wrap ((n - 1 : Nat) : Int) = ((n - 1 : Nat) : Int) := wrap_small _ (by omega) (by omega)
    have i0 : (0 : Int) ≤ ((n - 1 : Nat) : Int) := by omega
    have i1 : ((n - 1 : Nat) : Int) < (n : Int) := by omega
    have hpn := ptr_nil
    clear hpc hpl hrd hrd2 hix h hpv htv hmm HEN
    go_enter Try.func32, Try.ntmps32
    go_wp2_with (go_at_call 17; refine HL.out.mono ?_; rintro e w2 ⟨rfl, rfl⟩)
    go_region
    have d2' := fresh_cell (Below.refl _ w2).drew d2
    have a0' := fresh_cell (Below.refl _ w2).drew a0
    have HP' := hidd (HP.out.drew)
    have F := hidd (Below.refl w2.heap.size w2).drew
    clear d0 d1 d2 cl a0 HL HP
    generalize w2.drew = w3 at *
    go_wp2_with (go_at_call 33; refine (HLG.out _ d2').mono ?_; rintro e w4 ⟨rfl, rfl⟩)
    clear d2' a0' HLG hn0 e1 hwr i0 i1
    go_loopw [5] (fun v wr => ∃ l : Nat, l ≤ m ∧ v = .int .i64 l ∧ wr = w4 ∧ erL tx n l = erL tx n m) (fun v _ => (intOf v).toNat)
    case atStart => exact ⟨m, Nat.le_refl _, rfl, rfl, rfl⟩
    case round =>
      obtain ⟨l, hl, rfl, rfl, hel⟩ := hrel
      rcases l with _ | l
      · go_wp2
        go_ret2
        exact ⟨by rw [← hel]; rfl, F.out⟩
      · have ce : wr.cell? ⟨A n, l + 1, none⟩ = some (ptO A (ear tx n l)) := by
          have := HP'.out.cell (i := l + 1) (by omega)
          rw [this]
          unfold plF erV
          rw [if_neg (by omega), if_pos ⟨by omega, by omega⟩]
          rfl
        have e2 : (((l + 1 : Nat) : Int)) - 1 = (l : Int) := by omega
        have e3 : decide ((0 : Int) < ((l + 1 : Nat) : Int)) = true := decide_eq_true (by omega)
        have i0 : (0 : Int) ≤ (l : Int) := by omega
        have i1 : (l : Int) < 4 := by omega
        have hwl : IntKind.i64.wrap (l : Int) = (l : Int) := wrap_small _ (by omega) (by omega)
        have ek : 1 + l = l + 1 := by omega
        cases hea : ear tx n l with
        | none =>
          rw [hea] at ce
          have ce' : wr.cell? ⟨A n, l + 1, none⟩ = some (.pointer none) := ce
          clear ce
          go_wp2
          go_roundw
          case rel => exact ⟨l, by omega, by go_num, by first | rfl | trivial, by rw [← erL_none hea]; exact hel⟩
          case measure => simp [intOf]
        | some q =>
          rw [hea] at ce
          have ce' : wr.cell? ⟨A n, l + 1, none⟩ = some (.pointer (some ⟨A q, 0, none⟩)) := ce
          clear ce
          go_wp2
          go_ret2
          exact ⟨by rw [← hel, erL_some hea]; push_cast; rfl, F.out⟩
end Go.Proofs.Ytbpldnlafilbbaa
