import Derived.Test.YteiocgciblogdabVClo
import Derived.Test.YteiocgciblogdabVRn2
namespace Go.Proofs.Yteiocgciblogdab
open Go.RowKit
attribute [local go_sem] Oper.semAt_some
/-! All's function hands over lists of their own, new in each round. -/
/-- what is handed over in round k, as a list that the round owns -/
def handedN (d : VD) (k : Nat) (args : Array Value) (W0 W : World) : Prop := ∃ u, args = #[.int .i64 (k : Int), u] ∧ OwnB W W0.heap.size u (d.pc k)
set_option maxRecDepth 100000 in
set_option maxHeartbeats 4000000 in
theorem all_hands_new {d : VD} {w : World} {base n₁ Ba N : Nat} {v : Value} {A : Nat → Value} (hN : 0 < N) (hN2 : N ≤ 64) (hlen : ∀ t, t < N → (d.pc t).length ≤ 16) (hT : TabAt w base d v N A) (hn : n₁ = w.heap.size) (hc : w.cell? ⟨Ba, 0, none⟩ = some v) :
    HandsN Try.prog 30 #[.pointer (some ⟨Ba, 0, none⟩)] N (handedN d) (KpS base n₁) w := by
  intro l J Jx W hW hJ hY h0
  obtain ⟨g, cap, rfl, hg1, hg2, _⟩ := hT.get hN
  have hA : ∀ t, t < N → w.cell? ⟨g, t, none⟩ = some (A t) := fun t ht => by
    obtain ⟨ao, cap', e, hr⟩ := hT.own.rd
    cases e
    obtain ⟨b, off, e, hcs⟩ := hr.one hN
    cases e
    simpa using hcs t ht
  have hc' := fresh_cell hW hc
  have HA := hidd (fun t ht => fresh_cell hW (hA t ht))
  have HP := hidd (fun t ht => (hT.at_ t ht).fresh hW)
  have HB := hidd (show ∀ t, t < N → 0 < (d.pc t).length → ∀ b, (∃ c, A t = .slice (some ⟨b, 0, none⟩) (d.pc t).length c) → b < n₁ from fun t ht h0 b ⟨c, e⟩ => by
    obtain ⟨u, c', e', _, _, h3⟩ := hT.at_ t ht
    obtain ⟨b', e2, _, hl, _⟩ := h3 h0
    rw [e2] at e'
    rw [e] at e'
    cases e'
    rw [hn]; exact hl)
  have HJ := hidd hJ
  have HY := hidd hY
  have HLN := hidd hlen
  have hWn : n₁ ≤ W.heap.size := by rw [hn]; exact hW.size
  rw [← hn] at hg2
  clear hA hT hc hW hJ hY hlen hn
  refine callsIn_of_wp Try.func30 rfl trivial ?_ rfl
  simp only [Try.ntmps30, List.size_toArray, List.length_cons, List.length_nil, Nat.reduceAdd, Nat.reduceSub, Array.replicate_succ, Array.replicate_zero, List.push_toArray, List.append_toArray, List.nil_append, List.cons_append]
  gi_wp2
  gi_loopw [7] (fun i wr => ∃ k : Nat, k ≤ N ∧ i = .int .i64 k ∧ J k wr ∧ KpS base n₁ W wr) (fun i _ => N - (intOf i).toNat)
  case atStart => exact ⟨0, Nat.zero_le _, rfl, h0, KpS.refl _ _ _⟩
  case round =>
    obtain ⟨k, hk, rfl, hJs, hKp⟩ := hrel
    by_cases hlt : k < N
    · have hck := hKp.cell hg1 hg2 (HA.out k hlt)
      have hPk : PieceAt wr base (A k) (d.pc k) := by
        obtain ⟨u, c, eU, h1, h2, h3⟩ := HP.out k hlt
        refine ⟨u, c, eU, h1, h2, fun h0 => ?_⟩
        obtain ⟨b, e, hb, hl, hcs⟩ := h3 h0
        have hbn := HB.out k hlt h0 b ⟨c, by rw [eU, e]⟩
        exact ⟨b, e, hb, Nat.lt_of_lt_of_le hl hKp.1, fun j hj => hKp.cell hb hbn (hcs j hj)⟩
      have HPk := hidd hPk
      have hl16 := HLN.out k hlt
      obtain ⟨u, c, eA, _⟩ := hPk
      rw [eA] at hck
      have HC := hidd (clone_own HPk.out (by omega))
      rw [eA] at HC
      have hwn : n₁ ≤ wr.heap.size := Nat.le_trans hWn hKp.1
      gi_wp2_with (refine ⟨trivial, ?_⟩; gi_at_call 31; refine (callsIn_wide.2 HC.out).mono ?_; rintro e w9 ⟨v9, rfl, hP9, hf9⟩; obtain ⟨fn, tmps, assign, body, hy, hR⟩ := HY.out k #[.int .i64 (k : Int), v9] wr w9 hlt hJs hf9 ⟨v9, rfl, hP9⟩)
      refine hR.mono ?_
      have hK9 := hKp.trans (KpS.of_fresh hf9 hwn)
      clear hy hR hf9 hP9
      rintro e W3 (⟨rfl, hJ3, hk3⟩ | ⟨rfl, hJx3⟩)
      · gi_wp2
        go_roundw
        case rel => exact ⟨k + 1, by omega, by go_num, hJ3, hK9.trans hk3⟩
        case measure => simp [intOf]; omega
      · gi_wp2
        refine bodyPost_ret (results_none rfl _ _ _) rfl ?_
        exact ⟨⟨_, rfl⟩, .inr ⟨k + 1, by omega, hJx3⟩⟩
    · obtain rfl : k = N := by omega
      gi_wp2
      go_end0
      exact ⟨⟨_, rfl⟩, .inl hJs⟩
end Go.Proofs.Yteiocgciblogdab
