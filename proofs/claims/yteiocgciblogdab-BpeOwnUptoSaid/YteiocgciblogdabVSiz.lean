import Derived.Test.YteiocgciblogdabVPc2
import Derived.Test.YteiocgciblogdabVRck
namespace Go.Proofs.Yteiocgciblogdab
open Go.RowKit
/-! Size and Check of both. -/
theorem pieces_any {w : World} {d : VD} {bo po : Option Addr} {cb cp : Nat} (hb : RdA w bo 1 d.nb cb (fun i => .int .u8 (d.B i))) (hp : RdA w po 2 d.np cp (tcs d.P d.Q)) :
    Calls Try.prog 29 #[.agg #[.slice bo d.nb cb, .slice po d.np cp]] w fun e w' => ((d.Right ∧ ∃ v A, e = .returned v ∧ TabAt w' w.heap.size d v (d.nb + 1 + d.np) A) ∨ (¬ d.Right ∧ e = .returned (.slice none 0 0))) ∧ Below w.heap.size w w' := by
  by_cases h : d.cnt ∧ (∀ i, i < d.nb → d.newB i) ∧ (∀ j, j < d.np → d.newP j)
  · exact pieces_go hb hp h.1 h.2.1 h.2.2
  · exact (pieces_cnt hb hp h).mono fun e w' ⟨he, hf⟩ => ⟨.inr ⟨fun r => h ⟨r.cnt, r.base, r.pair⟩, he⟩, hf⟩
theorem row2_of (w : World) (t : TypeId) (x y : Value) : (w.alloc (.cells #[x, y] t)).cell? ⟨w.heap.size, 0, none⟩ = some x ∧ (w.alloc (.cells #[x, y] t)).cell? ⟨w.heap.size, 1, none⟩ = some y := by simp
/-- how many tokens there are -/
def VD.sized (d : VD) (x : Int) : Prop := (d.Right ∧ x = ((d.nb + 1 + d.np : Nat) : Int)) ∨ (¬ d.Right ∧ x = 0)
def VD.told (d : VD) (x : Int) : Prop := (d.Right ∧ x = 0) ∨ (¬ d.Right ∧ x = 50)
set_option maxHeartbeats 1000000 in
theorem psize_any {w : World} {d : VD} {bo po : Option Addr} {cb cp : Nat} (hb : RdA w bo 1 d.nb cb (fun i => .int .u8 (d.B i))) (hp : RdA w po 2 d.np cp (tcs d.P d.Q)) (x : Int) (hx : d.sized x) :
    Calls Try.prog 32 #[.agg #[.slice bo d.nb cb, .slice po d.np cp]] w fun e w' => e = .returned (.int .i64 x) ∧ Below w.heap.size w w' := by
  have hf0 := fresh_alloc w (.cells #[.slice bo d.nb cb, .slice po d.np cp] 25)
  have HX := hidd hx
  clear hx
  go_enter Try.func32, Try.ntmps32
  go_wp2_with fail
  refine (pieces_any (hb.fresh hf0) (hp.fresh hf0)).mono ?_
  rintro e w2 ⟨h, hf2⟩
  have hF := fresh_trans hf0 hf2
  rcases h with ⟨hR, v, A, rfl, hT⟩ | ⟨hR, rfl⟩
  · obtain ⟨g, cap, rfl, _⟩ := hT.get (by omega)
    have hc := hR.cnt
    obtain ⟨z1, z2, z3⟩ := hc
    have e : ((d.nb + 1 + d.np : Nat) : Int) = x := by
      rcases HX.out with ⟨_, e⟩ | ⟨n, _⟩
      · exact e.symm
      · exact absurd hR n
    have E := hidd e
    clear e hT hf2
    go_wp2
    go_ret
    exact ⟨ret_int (by have := E.out; omega), hF⟩
  · have e : x = 0 := by
      rcases HX.out with ⟨n, _⟩ | ⟨_, e⟩
      · exact absurd n hR
      · exact e
    subst e
    go_wp2
    go_ret
    exact ⟨rfl, hF⟩
set_option maxHeartbeats 1000000 in
theorem pcheck_any {w : World} {d : VD} {bo po : Option Addr} {cb cp : Nat} (hb : RdA w bo 1 d.nb cb (fun i => .int .u8 (d.B i))) (hp : RdA w po 2 d.np cp (tcs d.P d.Q)) (x : Int) (hx : d.told x) :
    Calls Try.prog 21 #[.agg #[.slice bo d.nb cb, .slice po d.np cp]] w fun e w' => e = .returned (.int .i64 x) ∧ Below w.heap.size w w' := by
  have hf0 := fresh_alloc w (.cells #[.slice bo d.nb cb, .slice po d.np cp] 25)
  rcases hx with ⟨hR, rfl⟩ | ⟨hR, rfl⟩
  · have HR := hidd hR
    clear hR
    go_enter Try.func21, Try.ntmps21
    go_wp2_with fail
    refine (psize_any (hb.fresh hf0) (hp.fresh hf0) _ (.inl ⟨HR.out, rfl⟩)).mono ?_
    rintro e w2 ⟨rfl, hf2⟩
    have hF := fresh_trans hf0 hf2
    go_wp2
    go_ret
    exact ⟨rfl, hF⟩
  · have HR := hidd hR
    clear hR
    go_enter Try.func21, Try.ntmps21
    go_wp2_with fail
    refine (psize_any (hb.fresh hf0) (hp.fresh hf0) 0 (.inr ⟨HR.out, rfl⟩)).mono ?_
    rintro e w2 ⟨rfl, hf2⟩
    have hF := fresh_trans hf0 hf2
    go_wp2
    go_ret
    exact ⟨rfl, hF⟩
end Go.Proofs.Yteiocgciblogdab
