import Derived.Test.YteiocgciblogdabVoc
namespace Go.Proofs.Yteiocgciblogdab
open Go.RowKit
/-! Comparing two lists that are alike. -/
set_option maxHeartbeats 1000000 in
theorem eqBytes_same {w : World} {ao bo : Option Addr} {n ca cb : Nat} {f g : Nat → Int} (ha : RdA w ao 1 n ca (fun i => .int .u8 (f i))) (hb : RdA w bo 1 n cb (fun i => .int .u8 (g i))) (hfg : ∀ i, i < n → f i = g i) :
    Calls Try.prog 11 #[.slice ao n ca, .slice bo n cb] w fun e w' => e = .returned (.bool true) ∧ Below w.heap.size w w' := by
  have hn : n ≤ 9223372036854775807 := by have := ha.le; have := ha.top; unfold maxLen at this; omega
  go_enter Try.func11, Try.ntmps11
  go_wp2
  go_loopw [5] (fun i wr => ∃ k : Nat, k ≤ n ∧ i = .int .i64 k ∧ Below w.heap.size w wr) (fun i _ => n - (intOf i).toNat)
  case atStart => exact ⟨0, by omega, rfl, Below.refl _ _⟩
  case round =>
    obtain ⟨k, hk, rfl, hf⟩ := hrel
    by_cases hlt : k < n
    · obtain ⟨b1, o1, rfl, h1⟩ := (ha.fresh hf).one (by omega)
      obtain ⟨b2, o2, rfl, h2⟩ := (hb.fresh hf).one (by omega)
      have c1 := h1 k hlt
      have c2 := h2 k hlt
      have e := hfg k hlt
      rw [← e] at c2
      clear h1 h2 e
      go_wp2
      go_quiet (fail)
      go_wp2
      go_roundw
      case rel => exact ⟨k + 1, by omega, by go_num, below_drewN hf _⟩
      case measure => simp [intOf]; omega
    · go_wp2
      go_ret
      exact ⟨rfl, hf⟩
set_option maxHeartbeats 1000000 in
theorem eqVocab_same {w : World} {d : VD} {bo po bo' po' : Option Addr} {cb cp cb' cp' : Nat} (hb : RdA w bo 1 d.nb cb (fun i => .int .u8 (d.B i))) (hp : RdA w po 2 d.np cp (tcs d.P d.Q))
    (hb' : RdA w bo' 1 d.nb cb' (fun i => .int .u8 (d.B i))) (hp' : RdA w po' 2 d.np cp' (tcs d.P d.Q)) :
    Calls Try.prog 20 #[.agg #[.slice bo d.nb cb, .slice po d.np cp], .agg #[.slice bo' d.nb cb', .slice po' d.np cp']] w fun e w' => e = .returned (.bool true) ∧ Below w.heap.size w w' := by
  have hn : d.np ≤ 9223372036854775807 := by have := hp.le; have := hp.top; unfold maxLen at this; omega
  have hf0 := fresh_trans (fresh_alloc w (.cells #[.slice bo d.nb cb, .slice po d.np cp] 25)) (fresh_alloc _ (.cells #[.slice bo' d.nb cb', .slice po' d.np cp'] 25))
  go_enter Try.func20, Try.ntmps20
  go_wp2_with fail
  have K1 := hidd (show ((w.alloc (.cells #[.slice bo d.nb cb, .slice po d.np cp] 25)).alloc (.cells #[.slice bo' d.nb cb', .slice po' d.np cp'] 25)).cell? ⟨w.heap.size, 1, none⟩ = some (.slice po d.np cp) by simp)
  have K2 := hidd (show ((w.alloc (.cells #[.slice bo d.nb cb, .slice po d.np cp] 25)).alloc (.cells #[.slice bo' d.nb cb', .slice po' d.np cp'] 25)).cell? ⟨w.heap.size + 1, 1, none⟩ = some (.slice po' d.np cp') by simp)
  generalize (w.alloc (.cells #[.slice bo d.nb cb, .slice po d.np cp] 25)).alloc (.cells #[.slice bo' d.nb cb', .slice po' d.np cp'] 25) = w1 at *
  refine (eqBytes_same (hb.fresh hf0) (hb'.fresh hf0) (fun _ _ => rfl)).mono ?_
  rintro e w2 ⟨rfl, hf2⟩
  have k1 := fresh_cell hf2 K1.out
  have k2 := fresh_cell hf2 K2.out
  go_wp2
  clear k1 k2
  go_loopw [5] (fun i wr => ∃ k : Nat, k ≤ d.np ∧ i = .int .i64 k ∧ Below w1.heap.size w1 wr) (fun i _ => d.np - (intOf i).toNat)
  case atStart => exact ⟨0, by omega, rfl, hf2⟩
  case round =>
    clear hf2
    obtain ⟨k, hk, rfl, hfb⟩ := hrel
    have hf := fresh_trans hf0 hfb
    have k1 := fresh_cell hfb K1.out
    have k2 := fresh_cell hfb K2.out
    by_cases hlt : k < d.np
    · obtain ⟨b1, o1, rfl, h1⟩ := (hp.fresh hf).two (by omega)
      obtain ⟨b2, o2, rfl, h2⟩ := (hp'.fresh hf).two (by omega)
      obtain ⟨c1, s1⟩ := h1 k hlt
      obtain ⟨c2, s2⟩ := h2 k hlt
      clear h1 h2
      have hq := neP_true (d.P k) (d.Q k)
      go_wp2
      go_quiet (fail)
      go_wp2
      go_roundw
      case rel => exact ⟨k + 1, by omega, by go_num, below_drewN hfb _⟩
      case measure => simp [intOf]; omega
    · go_wp2
      go_ret
      exact ⟨rfl, hf⟩
set_option maxHeartbeats 1000000 in
theorem copyB_any {w : World} {ao : Option Addr} {n ca : Nat} {f : Nat → Int} (ha : RdA w ao 1 n ca (fun i => .int .u8 (f i))) (hn : n ≤ 140737488351232) :
    Calls Try.prog 6 #[.slice ao n ca] w fun e w' => ∃ v, e = .returned v ∧ Own w' w.heap.size 5 1 v n (fun j => .int .u8 (f j)) ∧ Below w.heap.size w w' := by
  go_enter Try.func6, Try.ntmps6
  go_wp2
  go_loopw [3, 4] (fun v i wr => ∃ k : Nat, k ≤ n ∧ i = .int .i64 k ∧ Own wr w.heap.size 5 1 v k (fun j => .int .u8 (f j)) ∧ Below w.heap.size w wr) (fun _ i _ => n - (intOf i).toNat)
  case atStart => exact ⟨0, by omega, rfl, own_nil _ _ _ _ _, Below.refl _ _⟩
  case round =>
    obtain ⟨k, hk, rfl, hown, hf1⟩ := hrel
    have hsz := hf1.size
    by_cases hlt : k < n
    · obtain ⟨b1, o1, rfl, h1⟩ := (ha.fresh hf1).one (by omega)
      have c1 := h1 k hlt
      clear h1
      go_wp2_with (at_builtin; refine wpList_app1 _ rfl _ _ 22 rfl _ 5 (.int .u8 0) 1 Try.underlying22 infoB rfl _ k _ rfl (hown.kept (fresh_alloc _ _)) _ 1 rfl (new_cell _ _ _) rfl (by omega) (by omega) (by simp; omega) ?_)
      intro v' w6 hown' happ
      have hf6 := happ.below (hf1.alloc hsz _) (hown.kept (fresh_alloc _ _)) (Nat.le_refl _) (by simp; omega)
      clear happ hown hf1 c1
      go_wp2
      go_roundw
      case rel => exact ⟨k + 1, by omega, by go_num, hown', hf6⟩
      case measure => simp [intOf]; omega
    · obtain rfl : k = n := by omega
      go_wp2
      go_ret
      exact ⟨_, rfl, hown, hf1⟩
end Go.Proofs.Yteiocgciblogdab
