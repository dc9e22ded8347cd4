import Derived.Test.YteiocgciblogdabVoc
namespace Go.Proofs.Yteiocgciblogdab
open Go.RowKit
/-! counted, Index, Contains, unlike. -/
set_option maxHeartbeats 1000000 in
theorem counted_any {w : World} {d : VD} {bo po : Option Addr} {cb cp : Nat} (h1 : d.nb ≤ maxLen) (r : Bool) (hr : r = true ↔ d.cnt) :
    Calls Try.prog 37 #[.agg #[.slice bo d.nb cb, .slice po d.np cp]] w fun e w' => e = .returned (.bool r) ∧ Below w.heap.size w w' := by
  have HR := hidd hr
  unfold maxLen at h1
  clear hr
  have done : ∀ (s : Bool), (s = true ↔ d.cnt) → s = r := fun s h => by
    have := h.trans HR.out.symm
    cases s <;> cases r <;> simp_all
  have DN := hidd done
  clear done HR
  by_cases a1 : 1 ≤ d.nb
  · by_cases a2 : d.nb ≤ 48
    · by_cases a3 : d.np + d.nb ≤ 63
      · have e := DN.out true ⟨fun _ => ⟨a1, a2, a3⟩, fun _ => rfl⟩
        subst e
        clear DN
        go_enter Try.func37, Try.ntmps37
        go_wp2
        go_ret
        exact ⟨ret_bool (by go_num), fresh_alloc _ _⟩
      · have e := DN.out false ⟨(fun h => nomatch h), fun h => absurd h.2.2 a3⟩
        subst e
        clear DN
        go_enter Try.func37, Try.ntmps37
        go_wp2
        go_ret
        exact ⟨ret_bool (by go_num), fresh_alloc _ _⟩
    · have e := DN.out false ⟨(fun h => nomatch h), fun h => absurd h.2.1 a2⟩
      subst e
      clear DN
      go_enter Try.func37, Try.ntmps37
      go_wp2
      go_ret
      exact ⟨ret_bool (by go_num), fresh_alloc _ _⟩
  · have e := DN.out false ⟨(fun h => nomatch h), fun h => absurd h.1 a1⟩
    subst e
    clear DN
    go_enter Try.func37, Try.ntmps37
    go_wp2
    go_ret
    exact ⟨ret_bool (by go_num), fresh_alloc _ _⟩
end Go.Proofs.Yteiocgciblogdab
