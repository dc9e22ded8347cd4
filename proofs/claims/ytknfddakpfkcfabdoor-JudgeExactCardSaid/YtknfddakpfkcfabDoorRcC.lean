import Derived.Test.YtknfddakpfkcfabDoorRcB
namespace Go.Proofs.YtknfddakpfkcfabDoor
open Go.RowKit
/-! Ways in memory; place, Ways. -/
theorem Own.offT {w : World} {b1 b2 s1 s2 n1 n2 : Nat} {e1 e2 : TypeId} {v u : Value} {c1 c2 : Nat → Value} (h : Own w b1 e1 s1 v n1 c1) (k : Own w b2 e2 s2 u n2 c2) (hne : e1 ≠ e2) : Off v u := fun x hx hy => by
  rcases h.2 with ⟨rfl, rfl⟩ | ⟨g, cap, cur, rfl, _, hg, _⟩
  · simp [Value.ownBlock] at hx
  · rcases k.2 with ⟨rfl, rfl⟩ | ⟨g', cap', cur', rfl, _, hg', _⟩
    · simp [Value.ownBlock] at hy
    · obtain rfl : g = x := by simpa [Value.ownBlock] using hx
      obtain rfl : g' = g := by simpa [Value.ownBlock] using hy
      rw [hg] at hg'
      cases hg'
      exact hne rfl

def wAt (WS : List (List Int)) (i : Nat) : List Int := WS.getD i []
def wsC (WS : List (List Int)) (U : Nat → Option Addr) (K : Nat → Nat) : Nat → Value := fun i => .slice (U i) (wAt WS i).length (K i)
structure WsM (w : World) (base : Nat) (v : Value) (WS : List (List Int)) (U : Nat → Option Addr) (K : Nat → Nat) : Prop where
  own : Own w base 23 1 v WS.length (wsC WS U K)
  at_ : ∀ i, i < WS.length → Own w base 3 1 (.slice (U i) (wAt WS i).length (K i)) (wAt WS i).length (lF (wAt WS i))
theorem WsM.kept {w w' : World} {base : Nat} {v : Value} {WS : List (List Int)} {U : Nat → Option Addr} {K : Nat → Nat} (h : WsM w base v WS U K) (f : Below w.heap.size w w') : WsM w' base v WS U K := ⟨h.own.kept f, fun i hi => (h.at_ i hi).kept f⟩
theorem WsM.nil (w : World) (base : Nat) : WsM w base (.slice none 0 0) [] (fun _ => none) (fun _ => 0) := ⟨own_nil _ _ _ _ _, fun i hi => absurd hi (by simp)⟩
theorem wAt_lt {WS : List (List Int)} {i : Nat} (h : i < WS.length) : wAt WS i = WS[i] := by
  unfold wAt
  rw [List.getD_eq_getElem?_getD, List.getElem?_eq_getElem h]
  rfl
theorem wAt_app {WS : List (List Int)} {L : List Int} {i : Nat} (h : i < WS.length) : wAt (WS ++ [L]) i = wAt WS i := by
  unfold wAt
  rw [List.getD_eq_getElem?_getD, List.getD_eq_getElem?_getD, List.getElem?_append_left h]
theorem wAt_new (WS : List (List Int)) (L : List Int) : wAt (WS ++ [L]) WS.length = L := by
  unfold wAt
  simp
theorem lF_inj {L M : List Int} (hl : L.length = M.length) (h : ∀ j, j < L.length → L.getD j 0 = M.getD j 0) : L = M := by
  apply List.ext_getElem hl
  intro i h1 h2
  have := h i h1
  rw [List.getD_eq_getElem?_getD, List.getD_eq_getElem?_getD, List.getElem?_eq_getElem h1, List.getElem?_eq_getElem h2] at this
  exact this
/-- the first place of a way -/
def PlcR (WS : List (List Int)) (L : List Int) (r : Int) : Prop := (L ∉ WS ∧ r = -1) ∨ ∃ k : Nat, k < WS.length ∧ wAt WS k = L ∧ r = (k : Int)
set_option maxRecDepth 20000 in
set_option maxHeartbeats 1600000 in
theorem place_any {w : World} {base : Nat} {ao bo : Option Addr} {ca cb : Nat} {WS : List (List Int)} {U : Nat → Option Addr} {K : Nat → Nat} {L : List Int} (h : WsM w base (.slice ao WS.length ca) WS U K) (hL : RdA w bo 1 L.length cb (lF L)) :
    Calls Tryd.prog 16 #[.slice ao WS.length ca, .slice bo L.length cb] w fun e w' => (∃ r : Int, e = .returned (.int .i64 r) ∧ PlcR WS L r) ∧ Below w.heap.size w w' := by
  obtain ⟨n, HN⟩ : ∃ n, Hid (n = WS.length) := ⟨_, rfl⟩
  have hn : n ≤ 9223372036854775807 := by have := (own_rda h.own).le; have := (own_rda h.own).top; unfold maxLen at this; rw [HN.out]; omega
  have HM := hidd h
  have HL := hidd hL
  have HR := hidd (own_rda h.own)
  rw [← HN.out] at HR ⊢
  clear h hL
  go_enter Tryd.func16, Tryd.ntmps16
  go_wp2
  go_loopw [5] (fun i wr => ∃ k : Nat, k ≤ n ∧ i = .int .i64 (k : Int) ∧ Hid (∀ j, j < k → wAt WS j ≠ L) ∧ Hid (Below w.heap.size w wr)) (fun i _ => n - (intOf i).toNat)
  case atStart => exact ⟨0, by omega, rfl, fun j hj => absurd hj (by omega), Below.refl _ _⟩
  case round =>
    obtain ⟨k, hk, rfl, HE, HF⟩ := hrel
    by_cases hlt : k < n
    · obtain ⟨b1, o1, rfl, h1⟩ := (HR.out.fresh HF.out).one (by omega)
      have x1 := h1 k hlt
      unfold wsC at x1
      have k0 : (0 : Int) ≤ (k : Int) := by omega
      have k1 : (k : Int) < (n : Int) := by omega
      have KE := (eqInts_any ((own_rda (HM.out.at_ k (by rw [← HN.out]; exact hlt))).fresh HF.out) (HL.out.fresh HF.out))
      clear h1
      by_cases e : wAt WS k = L
      · have KE2 : Hid (Calls Tryd.prog 28 #[.slice (U k) (wAt WS k).length (K k), .slice bo L.length cb] wr fun e w' => e = .returned (.bool true) ∧ Below wr.heap.size wr w') := KE.mono (fun e' w2 q => by
          obtain ⟨⟨r, e1, e2⟩, q2⟩ := q
          have : r = true := e2.2 ⟨by rw [e], fun i _ => by rw [e]⟩
          rw [this] at e1
          exact ⟨e1, q2⟩)
        have HP : Hid (PlcR WS L (k : Int)) := .inr ⟨k, by rw [← HN.out]; exact hlt, e, rfl⟩
        clear KE e
        go_wp2_with (go_at_call 28; with_reducible refine KE2.out.mono ?_; rintro e w2 ⟨rfl, hb⟩; have F2 := hidd (HF.out.trans (hb.mono HF.out.size)); clear KE2 hb)
        go_ret
        exact ⟨⟨_, rfl, HP.out⟩, F2.out⟩
      · have KE2 : Hid (Calls Tryd.prog 28 #[.slice (U k) (wAt WS k).length (K k), .slice bo L.length cb] wr fun e w' => e = .returned (.bool false) ∧ Below wr.heap.size wr w') := KE.mono (fun e' w2 q => by
          obtain ⟨⟨r, e1, e2⟩, q2⟩ := q
          have : r = false := by
            cases r with
            | false => rfl
            | true =>
              obtain ⟨l1, l2⟩ := e2.1 rfl
              exact absurd (lF_inj l1 l2) e
          rw [this] at e1
          exact ⟨e1, q2⟩)
        have HN2 := hidd e
        clear KE e
        go_wp2_with (go_at_call 28; with_reducible refine KE2.out.mono ?_; rintro e w2 ⟨rfl, hb⟩; have F2 := hidd (HF.out.trans (hb.mono HF.out.size)); clear KE2 hb)
        go_roundw
        case rel => exact ⟨k + 1, by omega, by go_num, fun j hj => (by
          by_cases q : j = k
          · rw [q]; exact HN2.out
          · exact HE.out j (by omega)), F2⟩
        case measure => simp [intOf]; omega
    · obtain rfl : k = n := by omega
      have HP : Hid (PlcR WS L (-1)) := .inl ⟨fun hm => (by
        obtain ⟨z, hz, qz⟩ := List.getElem_of_mem hm
        exact HE.out z (by rw [HN.out]; exact hz) (by rw [wAt_lt hz]; exact qz)), rfl⟩
      go_wp2
      go_ret
      exact ⟨⟨_, rfl, HP.out⟩, HF.out⟩
end Go.Proofs.YtknfddakpfkcfabDoor
