import Derived.Test.YtakekdbclmgeoaaTpE
namespace Go.Proofs.Ytakekdbclmgeoaa
open Go.RowKit Go.Shelf
attribute [local go_sem] Oper.semAt_some
/-! Paths. -/
set_option maxRecDepth 20000 in
set_option maxHeartbeats 1600000 in
theorem paths_bad {w : World} {ao : Option Addr} {n cap : Nat} {P T D : Nat → Int} (h : RdA w ao 3 n cap (nds P T D)) (hk : ¬ okT n P T D) :
    Calls Try.prog 25 #[.slice ao n cap] w fun e w' => e = .returned (.func (.func 35) #[] #[]) ∧ Below w.heap.size w w' := by
  have HC := hidd (check_any h)
  rw [erT_bad hk] at HC
  clear h hk
  go_enter Try.func25, Try.ntmps25
  go_wp2_with (go_at_call 15; with_reducible refine HC.out.mono ?_; rintro e w1 ⟨rfl, f1⟩)
  go_ret
  exact ⟨rfl, f1⟩
set_option maxRecDepth 20000 in
set_option maxHeartbeats 1600000 in
theorem paths_ok {w : World} {b n cap : Nat} {P T D : Nat → Int} (h : RdA w (some ⟨b, 0, none⟩) 3 n cap (nds P T D)) (hk : okT n P T D) :
    Calls Try.prog 25 #[.slice (some ⟨b, 0, none⟩) n cap] w fun e w' => ∃ B u c, e = .returned (.func (.func 37) #[] #[.pointer (some ⟨B, 0, none⟩)]) ∧ w'.heap[B]? = some (.cells #[.slice u n c] 29 (0, 0)) ∧ w.heap.size ≤ B ∧ Own w' w.heap.size 54 3 (.slice u n c) n (nds P T D) ∧ Below w.heap.size w w' := by
  have HC := hidd (check_any h)
  rw [erT_ok hk] at HC
  have HH := hidd h
  have hn := hk.2.1
  have hn1 := hk.1
  clear h hk
  go_enter Try.func25, Try.ntmps25
  go_upto_region 3 with (go_at_call 15; with_reducible refine HC.out.mono ?_; rintro e w1 ⟨rfl, f1⟩; have F1 := hidd f1; clear f1)
  have K1 := hidd (cloneN_any (HH.out.fresh F1.out) (by omega) (by omega))
  clear HC
  have HHX : Hid (∀ (w2 : World) (u : Option Addr) (c : Nat), Own w2 w1.heap.size 54 3 (.slice u n c) n (nds P T D) → Below w1.heap.size w1 w2 → (w2.alloc (.cells #[.slice u n c] 29)).heap[w2.heap.size]? = some (.cells #[.slice u n c] 29 (0, 0)) ∧ w.heap.size ≤ w2.heap.size ∧ Own (w2.alloc (.cells #[.slice u n c] 29)) w.heap.size 54 3 (.slice u n c) n (nds P T D) ∧ Below w.heap.size w (w2.alloc (.cells #[.slice u n c] 29))) := by
    intro w2 u c ho hb
    have f2 := F1.out.trans (hb.mono F1.out.size)
    exact ⟨Go.Deep.blk_alloc_new _ _, f2.size, (ho.weaken F1.out.size).kept (fresh_alloc _ _), fresh_trans f2 (fresh_alloc _ _)⟩
  go_wp2_with (go_at_call 36; with_reducible refine K1.out.mono ?_; rintro e w2 ⟨u, c, rfl, ho, hb⟩; have HX := hidd (HHX.out w2 u c ho hb); clear ho hb HHX K1)
  go_ret
  exact ⟨_, _, _, rfl, HX.out⟩
theorem pte_hands {w : World} {G : Nat → Array Value → World → Prop} {Kp : World → World → Prop} : Hands2 Try.prog 35 #[] 0 G Kp w := by
  intro l J Jx W hW _ hJ hJp hJx hY h0
  refine callsIn_of_wp Try.func35 rfl trivial ?_ rfl
  simp only [Try.ntmps35, List.size_toArray, List.length_cons, List.length_nil, Nat.reduceAdd, Nat.reduceSub, Array.replicate_succ, Array.replicate_zero, List.push_toArray, List.append_toArray, List.nil_append, List.cons_append]
  gi_wp2
  go_end0
  exact ⟨⟨_, rfl⟩, .inl h0⟩
end Go.Proofs.Ytakekdbclmgeoaa
