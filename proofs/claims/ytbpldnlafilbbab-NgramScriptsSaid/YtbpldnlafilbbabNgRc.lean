import Derived.Test.YtbpldnlafilbbabNgRb
namespace Go.Proofs.Ytbpldnlafilbbab
open Go.RowKit
/-! The reference's Cut; first. -/
theorem RdA.lessR {w : World} {ao : Option Addr} {sz n m cap : Nat} {cs : Nat → Value} (h : RdA w ao sz n cap cs) (hm : m ≤ n) : RdA w ao sz m cap cs :=
  ⟨by have := h.le; omega, h.top, fun h0 => by
    obtain ⟨b, off, e, hc⟩ := h.at_ (by omega)
    exact ⟨b, off, e, fun j hj => hc j (Nat.lt_of_lt_of_le hj (Nat.mul_le_mul_right sz hm))⟩⟩
set_option maxRecDepth 20000 in
set_option maxHeartbeats 1600000 in
theorem rcut_nil (w : World) (k : Int) : Calls Try.prog 12 #[.pointer none, .int .i64 k] w fun e w' => e = .returned (.tuple #[]) ∧ w' = w := by
  go_enter Try.func12, Try.ntmps12
  go_wp2
  refine bodyPost_ret (results_none rfl _ _ _) rfl ?_
  exact ⟨rfl, rfl⟩
set_option maxRecDepth 20000 in
set_option maxHeartbeats 3200000 in
theorem rcut_any {w : World} {Y : Nat} {S : Nat → Prop} {most n : Nat} {tx : Nat → Int} (h : Ri w Y S most n tx) (k : Int) (hn : n * 8 ≤ 140737488351232) :
    Calls Try.prog 12 #[.pointer (some ⟨Y, 0, none⟩), .int .i64 k] w fun e w' => e = .returned (.tuple #[]) ∧ RiP w w' Y S most (min n k.toNat) tx := by
  obtain ⟨tv, hrow, hown, htv⟩ := h.ex
  obtain ⟨u, uc, rfl, hrd⟩ := hown.rd
  have c1 : w.cell? ⟨Y, 1, none⟩ = some (.slice u n uc) := hrow.cell (i := 1) (by omega)
  have hle := hrd.le
  by_cases hkn : (n : Int) ≤ k
  · have d1 : decide ((n : Int) ≤ k) = true := decide_eq_true hkn
    have HF : Hid (RiP w w Y S most (min n k.toNat) tx) := by rw [show min n k.toNat = n by omega]; exact ⟨S, h, Chg.refl w S, fun _ hb => hb, fun _ hb => .inl hb⟩
    clear h hrow hown htv hrd
    go_enter Try.func12, Try.ntmps12
    go_wp2
    refine bodyPost_ret (results_none rfl _ _ _) rfl ?_
    exact ⟨rfl, HF.out⟩
  · have d1 : decide ((n : Int) ≤ k) = false := decide_eq_false hkn
    obtain ⟨m, hm⟩ : ∃ m, m = min n k.toNat := ⟨_, rfl⟩
    have hmn : m ≤ n := by omega
    rw [← hm]
    have HCP := hidd (copyI_any (hrd.lessR (m := m) (by omega)) (by omega))
    have e1 : (m : Int) ≤ (uc : Int) := by omega
    have HFN : Hid (∀ (w2 : World) (u2 : Option Addr) (c2 : Nat), Own w2 w.heap.size 3 1 (.slice u2 m c2) m (fun i => .int .i64 (tx i)) → Below w.heap.size w w2 → w2.cell? ⟨Y, 1, none⟩ = some (.slice u n uc) ∧ w2.frozen? ⟨Y, 1, none⟩ = false ∧ Hid (RiP w (w2.setCell ⟨Y, 1, none⟩ (.slice u2 m c2)) Y S most m tx)) := by
      intro w2 u2 c2 ho hb
      have hYl := hrow.lt
      have hr2 := hrow.of_block (hb.block Y hYl)
      have hs2 := hb.size
      refine ⟨hr2.cell (i := 1) (by omega), hr2.frozen 1, ⟨fun z => S z ∨ (Value.slice u2 m c2).ownBlock = some z, ?_, ?_, fun z hz => .inl hz, fun z hz => ?_⟩⟩
      · refine ⟨⟨.slice u2 m c2, ?_, ?_, fun z hz => ⟨.inr hz, by have := (ho.lt z hz).1; omega⟩⟩, .inl h.sY, fun z hz => ?_⟩
        · refine (hr2.set 1 (.slice u2 m c2)).congr (fun j hj => ?_)
          unfold rxF
          match j, hj with
          | 0, _ => rfl
          | 1, _ => rfl
        · exact Own.chg (Chg.of_set w2 Y 1 _) (ho.weaken (Nat.zero_le _)) (fun z hz e => by have := (ho.lt z hz).1; omega)
        · simp
          rcases hz with hz | hz
          · have := h.low z hz; omega
          · exact (ho.lt z hz).2
      · exact (Chg.of_below S hb).trans (Chg.of_set w2 Y 1 _) (fun z hz e => by rw [e]; exact h.sY)
      · rcases hz with hz | hz
        · exact .inl hz
        · exact .inr (ho.lt z hz).1
    have hu0 : (u = none ∧ uc = 0) ∨ ∃ g, u = some ⟨g, 0, none⟩ := by
      rcases hown.2 with ⟨e, _⟩ | ⟨g, cap', cur, e, _⟩
      · cases e; exact .inl ⟨rfl, rfl⟩
      · cases e; exact .inr ⟨g, rfl⟩
    clear hrow hown htv hrd h
    rcases hu0 with ⟨rfl, rfl⟩ | ⟨g, rfl⟩
    · obtain rfl : n = 0 := by omega
      obtain rfl : m = 0 := by omega
      have d2 : decide (k < 0) = true := decide_eq_true (by omega)
      clear hm
      go_enter Try.func12, Try.ntmps12
      go_wp2_with (go_at_call 27; refine HCP.out.mono ?_; rintro e w2 ⟨u2, c2, rfl, ho2, hb2⟩; obtain ⟨cY, fY, HFI⟩ := HFN.out w2 u2 c2 ho2 hb2; clear ho2 hb2)
      first | go_end0 | refine bodyPost_ret (results_none rfl _ _ _) rfl ?_
      exact ⟨rfl, HFI.out⟩
    · by_cases hk0 : k < 0
      · have d2 : decide (k < 0) = true := decide_eq_true hk0
        obtain rfl : m = 0 := by omega
        clear hm
        go_enter Try.func12, Try.ntmps12
        go_wp2_with (go_at_call 27; refine HCP.out.mono ?_; rintro e w2 ⟨u2, c2, rfl, ho2, hb2⟩; obtain ⟨cY, fY, HFI⟩ := HFN.out w2 u2 c2 ho2 hb2; clear ho2 hb2)
        first | go_end0 | refine bodyPost_ret (results_none rfl _ _ _) rfl ?_
        exact ⟨rfl, HFI.out⟩
      · have d2 : decide (k < 0) = false := decide_eq_false hk0
        obtain rfl : k = (m : Int) := by omega
        clear hm hk0
        go_enter Try.func12, Try.ntmps12
        go_wp2_with (go_at_call 27; with_reducible refine HCP.out.mono ?_; rintro e w2 ⟨u2, c2, rfl, ho2, hb2⟩; obtain ⟨cY, fY, HFI⟩ := HFN.out w2 u2 c2 ho2 hb2; clear ho2 hb2)
        first | go_end0 | refine bodyPost_ret (results_none rfl _ _ _) rfl ?_
        exact ⟨rfl, HFI.out⟩
set_option maxRecDepth 20000 in
set_option maxHeartbeats 1600000 in
theorem first2_any {w : World} {ao : Option Addr} {c : Nat} {L : List Nat} (h : RdA w ao 1 L.length c (qF L)) :
    Calls Try.prog 14 #[.slice ao L.length c, .int .i64 2] w fun e w' => ∃ c', e = .returned (.slice ao (pkQ 2 L).length c') ∧ RdA w ao 1 (pkQ 2 L).length c' (qF (pkQ 2 L)) ∧ w' = w := by
  have hle := h.le
  by_cases h2 : 2 < L.length
  · have d1 : decide ((2 : Int) < (L.length : Int)) = true := decide_eq_true (by omega)
    have d1' : decide (2 < L.length) = true := decide_eq_true h2
    have e0 : pkQ 2 L = L.take 2 := if_pos (by omega)
    have e1 : (pkQ 2 L).length = 2 := by rw [e0, List.length_take]; omega
    have HR : Hid (RdA w ao 1 2 c (qF (pkQ 2 L))) := (h.lessR (m := 2) (by omega)).congr (fun j hj => by
      rw [e0]
      unfold qF
      rw [List.getD_eq_getElem?_getD, List.getD_eq_getElem?_getD, List.getElem?_take_of_lt (by omega)])
    rw [e1]
    obtain ⟨b, o, rfl, _⟩ := h.one (by omega)
    have e2 : (2 : Int) ≤ (c : Int) := by omega
    have e2' : 2 ≤ c := by omega
    clear e0 e1 h
    generalize L.length = n at *
    go_enter Try.func14, Try.ntmps14
    go_wp2
    go_ret
    exact ⟨c, rfl, HR.out, rfl⟩
  · have d1 : decide ((2 : Int) < (L.length : Int)) = false := decide_eq_false (by omega)
    have d1' : decide (2 < L.length) = false := decide_eq_false h2
    have e0 : pkQ 2 L = L := by
      unfold pkQ
      split
      · exact List.take_of_length_le (by omega)
      · rfl
    rw [e0]
    have HR := hidd h
    clear e0 h
    obtain ⟨n, HN⟩ : ∃ n, Hid (n = L.length) := ⟨_, rfl⟩
    rw [← HN.out] at HR d1 d1' ⊢
    go_enter Try.func14, Try.ntmps14
    go_wp2
    go_ret
    exact ⟨c, rfl, HR.out, rfl⟩
end Go.Proofs.Ytbpldnlafilbbab
