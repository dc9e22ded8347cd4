import Derived.Test.YteiocgciblogdabVoc
namespace Go.Proofs.Yteiocgciblogdab
open Go.RowKit
set_option maxHeartbeats 1000000 in
theorem twicePair_any {w : World} {d : VD} {bo po : Option Addr} {cb cp : Nat} (hp : RdA w po 2 d.np cp (tcs d.P d.Q)) (k : Nat) (hk : k < d.np) (hN : d.np ≤ 64) (r : Bool) (hr : r = true ↔ ∃ i, i < k ∧ d.P i = d.P k ∧ d.Q i = d.Q k) :
    Calls Try.prog 34 #[.agg #[.slice bo d.nb cb, .slice po d.np cp], .int .i64 k] w fun e w' => e = .returned (.bool r) ∧ Below w.heap.size w w' := by
  have HR := hidd hr
  clear hr
  go_enter Try.func34, Try.ntmps34
  go_wp2
  have hf0 := fresh_alloc w (.cells #[.slice bo d.nb cb, .slice po d.np cp] 25)
  have K1 := hidd (show (w.alloc (.cells #[.slice bo d.nb cb, .slice po d.np cp] 25)).cell? ⟨w.heap.size, 1, none⟩ = some (.slice po d.np cp) by simp)
  generalize w.alloc (.cells #[.slice bo d.nb cb, .slice po d.np cp] 25) = w1 at *
  go_loopw [5] (fun i wr => ∃ m : Nat, m ≤ k ∧ i = .int .i64 m ∧ Hid (∀ i, i < m → ¬ (d.P i = d.P k ∧ d.Q i = d.Q k)) ∧ Below w1.heap.size w1 wr) (fun i _ => k - (intOf i).toNat)
  case atStart => exact ⟨0, by omega, rfl, fun i hi => absurd hi (by omega), Below.refl _ _⟩
  case round =>
    obtain ⟨m, hm, rfl, HN, hfb⟩ := hrel
    have hf := fresh_trans hf0 hfb
    have k1 := fresh_cell hfb K1.out
    by_cases hlt : m < k
    · obtain ⟨b1, o1, rfl, h1⟩ := (hp.fresh hf).two (by omega)
      obtain ⟨c1, s1⟩ := h1 m (by omega)
      obtain ⟨c2, s2⟩ := h1 k hk
      by_cases e : d.P m = d.P k ∧ d.Q m = d.Q k
      · rw [e.1] at c1
        rw [e.2] at s1
        clear h1
        obtain rfl : r = true := HR.out.2 ⟨m, hlt, e⟩
        clear e
        have hq := eqP_true (d.P k) (d.Q k)
        go_wp2
        go_quiet (fail)
        go_wp2
        go_ret
        exact ⟨rfl, below_drewN hf _⟩
      · have E := hidd e
        have hq := eqP_false e
        clear h1 e
        go_wp2
        go_quiet (fail)
        go_wp2
        go_roundw
        case rel => exact ⟨m + 1, by omega, by go_num, fun i hi => if h : i = m then h ▸ E.out else HN.out i (by omega), below_drewN hfb _⟩
        case measure => simp [intOf]; omega
    · obtain rfl : m = k := by omega
      obtain rfl : r = false := by
        cases r with
        | false => rfl
        | true => obtain ⟨i, hi, e⟩ := HR.out.1 rfl; exact absurd e (HN.out i hi)
      go_wp2
      go_ret
      exact ⟨rfl, hf⟩
end Go.Proofs.Yteiocgciblogdab
