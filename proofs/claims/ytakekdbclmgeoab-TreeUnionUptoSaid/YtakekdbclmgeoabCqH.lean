import Derived.Test.YtakekdbclmgeoabCqG
namespace Go.Proofs.Ytakekdbclmgeoab
open Go.RowKit
/-! has, within. -/
def HasP (WS : List (List Int)) (L : List Int) (w : World) (e : Ending) (w' : World) : Prop := ((L ∈ WS ∧ e = .returned (.bool true)) ∨ (L ∉ WS ∧ e = .returned (.bool false))) ∧ Below w.heap.size w w'
theorem HasP.yes {WS : List (List Int)} {L : List Int} {w w' : World} {e : Ending} (h : e = .returned (.bool true)) (hm : L ∈ WS) (hb : Below w.heap.size w w') : HasP WS L w e w' := ⟨.inl ⟨hm, h⟩, hb⟩
theorem HasP.no {WS : List (List Int)} {L : List Int} {w w' : World} {e : Ending} (h : e = .returned (.bool false)) (hm : L ∉ WS) (hb : Below w.heap.size w w') : HasP WS L w e w' := ⟨.inr ⟨hm, h⟩, hb⟩
set_option maxRecDepth 20000 in
set_option maxHeartbeats 1600000 in
theorem has_any {w : World} {base : Nat} {ao bo : Option Addr} {ca cb : Nat} {WS : List (List Int)} {U : Nat → Option Addr} {K : Nat → Nat} {L : List Int} (h : WsM w base (.slice ao WS.length ca) WS U K) (hL : RdA w bo 1 L.length cb (lF L)) :
    Calls Try.prog 21 #[.slice ao WS.length ca, .slice bo L.length cb] w (HasP WS L w) := by
  obtain ⟨n, HN⟩ : ∃ n, Hid (n = WS.length) := ⟨_, rfl⟩
  have hn : n ≤ 9223372036854775807 := by have := (own_rda h.own).le; have := (own_rda h.own).top; unfold maxLen at this; rw [HN.out]; omega
  have HM := hidd h
  have HL := hidd hL
  have HR := hidd (own_rda h.own)
  rw [← HN.out] at HR ⊢
  clear h hL
  go_enter Try.func21, Try.ntmps21
  go_wp2
  go_loopw [5] (fun i wr => ∃ k : Nat, k ≤ n ∧ i = .int .i64 (k : Int) ∧ Hid (∀ j, j < k → wAt WS j ≠ L) ∧ Hid (Below w.heap.size w wr)) (fun i _ => n - (intOf i).toNat)
  case atStart => exact ⟨0, by omega, rfl, fun j hj => absurd hj (by omega), Below.refl _ _⟩
  case round =>
    obtain ⟨k, hk, rfl, HE, HF⟩ := hrel
    by_cases hlt : k < n
    · obtain ⟨b1, o1, rfl, h1⟩ := (HR.out.fresh HF.out).one (by omega)
      have x1 := h1 k hlt
      unfold wsC at x1
      have k0 : (0 : Int) ≤ (k : Int) := by omega
      have k1 : (k : Int) < (n : Int) := by omega
      have KE := (eqInts_any ((own_rda (HM.out.at_ k (by rw [← HN.out]; exact hlt))).fresh HF.out) (HL.out.fresh HF.out))
      clear h1
      by_cases e : wAt WS k = L
      · have KE2 : Hid (Calls Try.prog 40 #[.slice (U k) (wAt WS k).length (K k), .slice bo L.length cb] wr fun e w' => e = .returned (.bool true) ∧ Below wr.heap.size wr w') := KE.mono (fun e' w2 q => by
          obtain ⟨⟨r, e1, e2⟩, q2⟩ := q
          have : r = true := e2.2 ⟨by rw [e], fun i _ => by rw [e]⟩
          rw [this] at e1
          exact ⟨e1, q2⟩)
        have HP : Hid (L ∈ WS) := by rw [← e, wAt_lt (by rw [← HN.out]; exact hlt)]; exact List.getElem_mem _
        clear KE e
        go_wp2_with (go_at_call 40; with_reducible refine KE2.out.mono ?_; rintro e w2 ⟨rfl, hb⟩; have F2 := hidd (HF.out.trans (hb.mono HF.out.size)); clear KE2 hb)
        go_ret
        exact HasP.yes rfl HP.out F2.out
      · have KE2 : Hid (Calls Try.prog 40 #[.slice (U k) (wAt WS k).length (K k), .slice bo L.length cb] wr fun e w' => e = .returned (.bool false) ∧ Below wr.heap.size wr w') := KE.mono (fun e' w2 q => by
          obtain ⟨⟨r, e1, e2⟩, q2⟩ := q
          have : r = false := by
            cases r with
            | false => rfl
            | true =>
              obtain ⟨l1, l2⟩ := e2.1 rfl
              exact absurd (lF_inj l1 l2) e
          rw [this] at e1
          exact ⟨e1, q2⟩)
        have HN2 := hidd e
        clear KE e
        go_wp2_with (go_at_call 40; with_reducible refine KE2.out.mono ?_; rintro e w2 ⟨rfl, hb⟩; have F2 := hidd (HF.out.trans (hb.mono HF.out.size)); clear KE2 hb)
        go_roundw
        case rel => exact ⟨k + 1, by omega, by go_num, fun j hj => (by
          by_cases q : j = k
          · rw [q]; exact HN2.out
          · exact HE.out j (by omega)), F2⟩
        case measure => simp [intOf]; omega
    · obtain rfl : k = n := by omega
      have HP : Hid (L ∉ WS) := fun hm => (by
        obtain ⟨z, hz, qz⟩ := List.getElem_of_mem hm
        exact HE.out z (by rw [HN.out]; exact hz) (by rw [wAt_lt hz]; exact qz))
      go_wp2
      go_ret
      exact HasP.no rfl HP.out HF.out
set_option maxRecDepth 20000 in
set_option maxHeartbeats 1600000 in
theorem within_any {w : World} {base base' : Nat} {ao bo : Option Addr} {ca cb : Nat} {VS WS : List (List Int)} {U U' : Nat → Option Addr} {K K' : Nat → Nat} (h : WsM w base (.slice ao VS.length ca) VS U K) (h' : WsM w base' (.slice bo WS.length cb) WS U' K') (hs : ∀ L ∈ VS, L ∈ WS) :
    Calls Try.prog 19 #[.slice ao VS.length ca, .slice bo WS.length cb] w fun e w' => e = .returned (.bool true) ∧ Below w.heap.size w w' := by
  obtain ⟨n, HN⟩ : ∃ n, Hid (n = VS.length) := ⟨_, rfl⟩
  have hn : n ≤ 9223372036854775807 := by have := (own_rda h.own).le; have := (own_rda h.own).top; unfold maxLen at this; rw [HN.out]; omega
  have HM := hidd h
  have HM' := hidd h'
  have HS := hidd hs
  have HR := hidd (own_rda h.own)
  rw [← HN.out] at HR ⊢
  clear h h' hs
  go_enter Try.func19, Try.ntmps19
  go_wp2
  go_loopw [5] (fun i wr => ∃ k : Nat, k ≤ n ∧ i = .int .i64 (k : Int) ∧ Hid (Below w.heap.size w wr)) (fun i _ => n - (intOf i).toNat)
  case atStart => exact ⟨0, by omega, rfl, Below.refl _ _⟩
  case round =>
    obtain ⟨k, hk, rfl, HF⟩ := hrel
    by_cases hlt : k < n
    · obtain ⟨b1, o1, rfl, h1⟩ := (HR.out.fresh HF.out).one (by omega)
      have x1 := h1 k hlt
      unfold wsC at x1
      have k0 : (0 : Int) ≤ (k : Int) := by omega
      have k1 : (k : Int) < (n : Int) := by omega
      have hkl : k < VS.length := by rw [← HN.out]; exact hlt
      have KE : Hid (Calls Try.prog 21 #[.slice bo WS.length cb, .slice (U k) (wAt VS k).length (K k)] wr fun e w' => e = .returned (.bool true) ∧ Below wr.heap.size wr w') := (has_any (HM'.out.kept HF.out) ((own_rda (HM.out.at_ k hkl)).fresh HF.out)).mono (fun e w' q => by
        obtain ⟨q1 | q1, q2⟩ := q
        · exact ⟨q1.2, q2⟩
        · exact absurd (HS.out _ (by rw [wAt_lt hkl]; exact List.getElem_mem _)) q1.1)
      clear h1 hkl
      go_wp2_with (go_at_call 21; with_reducible refine KE.out.mono ?_; rintro e w2 ⟨rfl, hb⟩; have F2 := hidd (HF.out.trans (hb.mono HF.out.size)); clear KE hb)
      go_roundw
      case rel => exact ⟨k + 1, by omega, by go_num, F2⟩
      case measure => simp [intOf]; omega
    · obtain rfl : k = n := by omega
      go_wp2
      go_ret
      exact ⟨rfl, HF.out⟩
end Go.Proofs.Ytakekdbclmgeoab
