import Derived.Test.YtakekdbclmgeoabCqK
import Derived.Test.YtakekdbclmgeoabHeld
import Derived.Deep.RegionLaw
namespace Go.Proofs.Ytakekdbclmgeoab
open Go.RowKit
/-! TreeUnion. -/
theorem infoSR : (Try.prog.info? 22).map (fun i => (i.zero, i.size, i.bytes)) = some (some (.slice none 0 0), 1, 24) := by kernel_rfl
theorem own_type {w : World} {base : Nat} {e : TypeId} {sz : Nat} {v : Value} {n : Nat} {cs : Nat → Value} (h : Own w base e sz v n cs) {b : Nat} (hb : v.ownBlock = some b) : ∃ cur fr, w.heap[b]? = some (.cells cur e fr) := by
  rcases h.2 with ⟨e1, _⟩ | ⟨k, cap, cur, e1, _, hk, _⟩
  · rw [e1] at hb; simp [Value.ownBlock] at hb
  · rw [e1] at hb
    simp [Value.ownBlock] at hb
    subst hb
    exact ⟨_, _, hk⟩
theorem own_off {w : World} {base base' : Nat} {e e' : TypeId} {sz sz' : Nat} {v v' : Value} {n n' : Nat} {cs cs' : Nat → Value} (h : Own w base e sz v n cs) (k : Own w base' e' sz' v' n' cs') (het : e ≠ e') : Off v v' := fun b hb hb' => by
  obtain ⟨_, _, h1⟩ := own_type h hb
  obtain ⟨_, _, h2⟩ := own_type k hb'
  rw [h1] at h2
  cases h2
  exact het rfl
def csf (X : Nat → List (Int × Int)) (U : Nat → Option Addr) (C : Nat → Nat) : Nat → Value := fun j => .slice (U j) (X j).length (C j)
/-- copies of the lists, in memory of their own -/
def Cp (w0 wr : World) (X : Nat → List (Int × Int)) (U : Nat → Option Addr) (C : Nat → Nat) (i : Nat) : Prop := ∀ j, j < i → Own wr w0.heap.size 41 2 (.slice (U j) (X j).length (C j)) (X j).length (rwF (X j))
/-- what a Clean of a short raw tree answers -/
structure Cl (R : List (Int × Int)) (v : Int) (WS : List (List Int)) (mT : Nat) : Prop where
  ws : WS = wsOf R v
  m : mT = min 32 (WS.length + 1)
  ok : okT mT (rcP WS) (rcT 3 WS) (rcD WS)
  tk : ∀ L, L ∈ tkW (rcP WS) (rcT 3 WS) (mT - 1) → L ∈ WS
  all : mT < 32 → ∀ L, L ∈ WS → L ∈ tkW (rcP WS) (rcT 3 WS) (mT - 1)
theorem cl_mk (R : List (Int × Int)) (v : Int) (hR : R.length ≤ 96) : ∃ WS mT, Cl R v WS mT := by
  have HOKW := wsD_ok (rP R) (rT R) v R.length R.length
  obtain ⟨WS, hW⟩ : ∃ x, x = wsOf R v := ⟨_, rfl⟩
  have HOKW : WsOk (rP R) (rT R) v R.length (R.length + 1) WS := by rw [hW]; exact HOKW
  obtain ⟨m, hm⟩ : ∃ m, m = min 32 (WS.length + 1) := ⟨_, rfl⟩
  refine ⟨WS, m, hW, hm, ?_, ?_, ?_⟩
  · exact rc_ok (root := 3) HOKW hR (by omega) (by omega) (by omega)
  · intro L hL
    obtain ⟨i, hi, e⟩ := List.mem_map.1 hL
    have hi := List.mem_range.1 hi
    rw [← e]
    show tkL _ _ (i + 1) ∈ _
    rw [tk_ws HOKW hR (m := m) (by omega) (by omega) (by omega) i (by omega), wAt_lt (by omega)]
    exact List.getElem_mem _
  · intro hlt L hL
    obtain ⟨i, hi, e⟩ := List.getElem_of_mem hL
    refine List.mem_map.2 ⟨i, List.mem_range.2 (by omega), ?_⟩
    show tkL _ _ (i + 1) = L
    rw [tk_ws HOKW hR (m := m) (by omega) (by omega) (by omega) i (by omega), wAt_lt hi]
    exact e
theorem Cl.clean {R : List (Int × Int)} {v : Int} {WS : List (List Int)} {mT : Nat} (c : Cl R v WS mT) (hR : R.length ≤ 96) (hv : fits v) {w : World} {ao : Option Addr} {cap : Nat} (h : RdA w ao 2 R.length cap (rwF R)) :
    Calls Try.prog 8 #[.int .i64 3, .slice ao R.length cap, .int .i64 v] w fun e w' => ∃ u c, e = .returned (.tuple #[.slice u mT c, .int .i64 0]) ∧ RdA w' u 3 mT c (nds (rcP WS) (rcT 3 WS) (rcD WS)) ∧ Below w.heap.size w w' :=
  (clean_rc (root := 3) h hR hv c.ws c.m).mono (fun e w' q => by
    obtain ⟨u, c, e1, o, b⟩ := q
    exact ⟨u, c, e1, own_rda o, b⟩)
end Go.Proofs.Ytakekdbclmgeoab
