import Derived.Test.YteiocgciblogdaaVSpl
namespace Go.Proofs.Yteiocgciblogdaa
open Go.RowKit
/-! strange. -/
def VD.odd (d : VD) (x : Int) : Prop := ∀ i, i < d.nb → d.B i ≠ x
set_option maxRecDepth 20000 in
set_option maxHeartbeats 4000000 in
theorem strange_any {w : World} {d : VD} {bo po ao : Option Addr} {cb cp n ca : Nat} {X : Nat → Int} (hb : RdA w bo 1 d.nb cb (fun i => .int .u8 (d.B i))) (ha : RdA w ao 1 n ca (fun i => .int .u8 (X i))) (hn : n ≤ 1048576) (hnb : d.nb ≤ 1048576) (r : Bool) (hr : r = true ↔ ∃ i, i < n ∧ d.odd (X i)) :
    Calls Try.prog 29 #[.agg #[.slice bo d.nb cb, .slice po d.np cp], .slice ao n ca] w fun e w' => e = .returned (.bool r) ∧ Below w.heap.size w w' := by
  have HR := hidd hr
  clear hr
  have hf0 := fresh_alloc w (.cells #[.slice bo d.nb cb, .slice po d.np cp] 25)
  have K1 := hidd (show (w.alloc (.cells #[.slice bo d.nb cb, .slice po d.np cp] 25)).cell? ⟨w.heap.size, 0, none⟩ = some (.slice bo d.nb cb) by simp)
  go_enter Try.func29, Try.ntmps29
  go_wp2
  generalize w.alloc (.cells #[.slice bo d.nb cb, .slice po d.np cp] 25) = w1 at *
  go_loopw [5] (fun i wr => ∃ k : Nat, k ≤ n ∧ i = .int .i64 k ∧ Hid (∀ i, i < k → ¬ d.odd (X i)) ∧ Below w1.heap.size w1 wr) (fun i _ => n - (intOf i).toNat)
  case atStart => exact ⟨0, by omega, rfl, (fun i hi => absurd hi (by omega)), Below.refl _ _⟩
  case round =>
    obtain ⟨k, hk, rfl, HN, hfb⟩ := hrel
    have hf := fresh_trans hf0 hfb
    by_cases hlt : k < n
    · have i1 : (0 : Int) ≤ (k : Int) := Int.natCast_nonneg _
      have i2 : (k : Int) < (n : Int) := by omega
      go_wp2
      go_loopw [6, 7] (fun b i wr => ∃ (m : Nat) (f : Bool), m ≤ d.nb ∧ i = .int .i64 m ∧ b = .bool f ∧ Hid (f = true ↔ ∃ j, j < m ∧ d.B j = X k) ∧ Below w1.heap.size w1 wr) (fun _ i _ => d.nb - (intOf i).toNat)
      case atStart => exact ⟨0, false, by omega, rfl, rfl, ⟨(fun h => nomatch h), fun ⟨j, hj, _⟩ => absurd hj (by omega)⟩, hfb⟩
      case round =>
        clear hfb hf
        obtain ⟨m, f, hm, rfl, rfl, HF, hfb⟩ := hrel
        have hf := fresh_trans hf0 hfb
        have k1 := fresh_cell hfb K1.out
        by_cases hltm : m < d.nb
        · obtain ⟨b1, o1, rfl, h1⟩ := (hb.fresh hf).one (by omega)
          obtain ⟨b2, o2, rfl, h2⟩ := (ha.fresh hf).one (by omega)
          have c1 := h1 m hltm
          have c2 := h2 k hlt
          clear h1 h2
          by_cases e : d.B m = X k
          · have E := hidd e
            rw [e] at c1
            clear e
            go_wp2
            go_quiet (fail)
            go_wp2
            go_roundw
            case rel => exact ⟨m + 1, true, by omega, by go_num, rfl, ⟨fun _ => ⟨m, by omega, E.out⟩, fun _ => rfl⟩, below_drewN hfb _⟩
            case measure => simp [intOf]; omega
          · have E := hidd e
            go_wp2
            go_quiet (fail)
            go_wp2
            go_roundw
            case rel => exact ⟨m + 1, f, by omega, by go_num, rfl, ⟨fun h => (HF.out.1 h).imp fun j hj => ⟨by omega, hj.2⟩, fun ⟨j, hj, e⟩ => HF.out.2 ⟨j, by
              have : j ≠ m := fun h => E.out (h ▸ e)
              omega, e⟩⟩, below_drewN hfb _⟩
            case measure => simp [intOf]; omega
        · have em : m = d.nb := by omega
          rw [em] at HF
          clear em
          cases f with
          | true =>
            have HO : Hid (¬ d.odd (X k)) := fun h => by obtain ⟨j, hj, e⟩ := HF.out.1 rfl; exact h j hj e
            go_wp2
            go_roundw
            case rel => exact ⟨k + 1, by omega, by go_num, (fun i hi => if h : i = k then h ▸ HO.out else HN.out i (by omega)), hfb⟩
            case measure => simp [intOf]; omega
          | false =>
            have HO : Hid (d.odd (X k)) := fun j hj e => by have := HF.out.2 ⟨j, hj, e⟩; cases this
            obtain rfl : r = true := HR.out.2 ⟨k, hlt, HO.out⟩
            go_wp2
            go_ret
            exact ⟨rfl, hf⟩
    · obtain rfl : k = n := by omega
      obtain rfl : r = false := by
        cases r with
        | false => rfl
        | true => obtain ⟨i, hi, h⟩ := HR.out.1 rfl; exact absurd h (HN.out i hi)
      go_wp2
      go_ret
      exact ⟨rfl, hf⟩
end Go.Proofs.Yteiocgciblogdaa
