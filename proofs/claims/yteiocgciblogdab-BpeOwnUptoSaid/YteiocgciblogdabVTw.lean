import Derived.Test.YteiocgciblogdabVoc
namespace Go.Proofs.Yteiocgciblogdab
open Go.RowKit
/-! Whether an element stands ahead of its place too. -/
set_option maxHeartbeats 1000000 in
theorem twiceByte_any {w : World} {d : VD} {bo po : Option Addr} {cb cp : Nat} (hb : RdA w bo 1 d.nb cb (fun i => .int .u8 (d.B i))) (k : Nat) (hk : k < d.nb) (hN : d.nb ≤ 48) (r : Bool) (hr : r = true ↔ ∃ i, i < k ∧ d.B i = d.B k) :
    Calls Try.prog 33 #[.agg #[.slice bo d.nb cb, .slice po d.np cp], .int .i64 k] w fun e w' => e = .returned (.bool r) ∧ Below w.heap.size w w' := by
  have HR := hidd hr
  clear hr
  go_enter Try.func33, Try.ntmps33
  go_wp2
  have hf0 := fresh_alloc w (.cells #[.slice bo d.nb cb, .slice po d.np cp] 25)
  have K1 := hidd (show (w.alloc (.cells #[.slice bo d.nb cb, .slice po d.np cp] 25)).cell? ⟨w.heap.size, 0, none⟩ = some (.slice bo d.nb cb) by simp)
  generalize w.alloc (.cells #[.slice bo d.nb cb, .slice po d.np cp] 25) = w1 at *
  go_loopw [5] (fun i wr => ∃ m : Nat, m ≤ k ∧ i = .int .i64 m ∧ Hid (∀ i, i < m → d.B i ≠ d.B k) ∧ Below w1.heap.size w1 wr) (fun i _ => k - (intOf i).toNat)
  case atStart => exact ⟨0, by omega, rfl, fun i hi => absurd hi (by omega), Below.refl _ _⟩
  case round =>
    obtain ⟨m, hm, rfl, HN, hfb⟩ := hrel
    have hf := fresh_trans hf0 hfb
    have k1 := fresh_cell hfb K1.out
    by_cases hlt : m < k
    · obtain ⟨b1, o1, rfl, h1⟩ := (hb.fresh hf).one (by omega)
      have c1 := h1 m (by omega)
      have c2 := h1 k hk
      by_cases e : d.B m = d.B k
      · rw [e] at c1
        clear h1
        obtain rfl : r = true := HR.out.2 ⟨m, hlt, e⟩
        clear e
        go_wp2
        go_quiet (fail)
        go_wp2
        go_ret
        exact ⟨rfl, below_drewN hf _⟩
      · have E := hidd e
        clear h1
        go_wp2
        go_quiet (fail)
        go_wp2
        go_roundw
        case rel => exact ⟨m + 1, by omega, by go_num, fun i hi => if h : i = m then h ▸ E.out else HN.out i (by omega), below_drewN hfb _⟩
        case measure => simp [intOf]; omega
    · obtain rfl : m = k := by omega
      obtain rfl : r = false := by
        cases r with
        | false => rfl
        | true => obtain ⟨i, hi, e⟩ := HR.out.1 rfl; exact absurd e (HN.out i hi)
      go_wp2
      go_ret
      exact ⟨rfl, hf⟩
end Go.Proofs.Yteiocgciblogdab
