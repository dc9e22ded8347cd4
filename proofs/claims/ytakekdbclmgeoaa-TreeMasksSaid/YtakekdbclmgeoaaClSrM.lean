import Derived.Test.YtakekdbclmgeoaaClSrL
namespace Go.Proofs.Ytakekdbclmgeoaa.Cl
open Go.RowKit
/-! What gather's loop keeps in memory. -/
theorem own_offT {w : World} {b b' : Nat} {e e' : TypeId} {sz sz' : Nat} {v v' : Value} {n n' : Nat} {cs cs' : Nat → Value} (h : Own w b e sz v n cs) (h' : Own w b' e' sz' v' n' cs') (hne : e ≠ e') : Off v v' := by
  intro k hk hk'
  rcases h.2 with ⟨rfl, _⟩ | ⟨g, cap, cur, rfl, _, hgg, _⟩
  · simp [Value.ownBlock] at hk
  · rcases h'.2 with ⟨rfl, _⟩ | ⟨g', cap', cur', rfl, _, hgg', _⟩
    · simp [Value.ownBlock] at hk'
    · simp only [Value.ownBlock, Option.some.injEq] at hk hk'
      subst hk
      subst hk'
      rw [hgg] at hgg'
      simp at hgg'
      exact hne hgg'.2
theorem own_noM {w : World} {b : Nat} {e : TypeId} {sz : Nat} {v : Value} {n : Nat} {cs : Nat → Value} {M : Nat} {G : Int → Int → Option Int} (h : Own w b e sz v n cs) (k : KMap w M G) : some M ≠ v.ownBlock := by
  intro hk
  obtain ⟨es, clock, q⟩ := k
  rcases h.2 with ⟨rfl, _⟩ | ⟨g, cap, cur, rfl, _, hgg, _⟩
  · simp [Value.ownBlock] at hk
  · simp only [Value.ownBlock, Option.some.injEq] at hk
    subst hk
    rw [q.blk] at hgg
    cases hgg
theorem Own.blocks {w w' : World} {b : Nat} {e : TypeId} {sz : Nat} {v : Value} {n : Nat} {cs : Nat → Value} (h : Own w b e sz v n cs) (f : ∀ k, v.ownBlock = some k → w'.heap[k]? = w.heap[k]?) : Own w' b e sz v n cs := by
  refine ⟨h.1, ?_⟩
  rcases h.2 with hn | ⟨g, cap, cur, rfl, hb, hgg, rest⟩
  · exact .inl hn
  · exact .inr ⟨g, cap, cur, rfl, hb, (f g rfl).trans hgg, rest⟩
structure GaW (w wr : World) (M n : Nat) (P T D : Nat → Int) (m : Nat) (A : Nat → Int) (G : Int → Int → Option Int) (v7 v9 : Value) : Prop where
  nod : Own wr w.heap.size 54 3 v7 n (nds P T D)
  at_ : Own wr w.heap.size 3 1 v9 m (fun j => .int .i64 (A j))
  map : KMap wr M G
  low : Below w.heap.size w wr
  mb : w.heap.size ≤ M
theorem GaW.fresh {w wr w' : World} {M n : Nat} {P T D : Nat → Int} {m : Nat} {A : Nat → Int} {G : Int → Int → Option Int} {v7 v9 : Value} (h : GaW w wr M n P T D m A G v7 v9) (f : Below wr.heap.size wr w') : GaW w w' M n P T D m A G v7 v9 :=
  ⟨h.nod.kept f, h.at_.kept f, h.map.of_block (f.block M h.map.lt), h.low.trans (f.mono h.low.size), h.mb⟩
theorem GaW.appA {w wr w' : World} {M n : Nat} {P T D : Nat → Int} {m m' : Nat} {A A' : Nat → Int} {G : Int → Int → Option Int} {v7 v9 v9' : Value} (h : GaW w wr M n P T D m A G v7 v9) (ho : Own w' w.heap.size 3 1 v9' m' (fun j => .int .i64 (A' j))) (ha : App wr w' v9 v9') : GaW w w' M n P T D m' A' G v7 v9' :=
  ⟨ha.own h.nod (own_offT h.at_ h.nod (by decide)), ho, h.map.of_block (ha.grown.block M h.map.lt (own_noM h.at_ h.map)), ha.below h.low h.at_ (Nat.le_refl _) h.low.size, h.mb⟩
theorem GaW.appN {w wr w' : World} {M n n' : Nat} {P T D P' T' D' : Nat → Int} {m : Nat} {A : Nat → Int} {G : Int → Int → Option Int} {v7 v9 v7' : Value} (h : GaW w wr M n P T D m A G v7 v9) (ho : Own w' w.heap.size 54 3 v7' n' (nds P' T' D')) (ha : App wr w' v7 v7') : GaW w w' M n' P' T' D' m A G v7' v9 :=
  ⟨ho, ha.own h.at_ (own_offT h.nod h.at_ (by decide)), h.map.of_block (ha.grown.block M h.map.lt (own_noM h.nod h.map)), ha.below h.low h.nod (Nat.le_refl _) h.low.size, h.mb⟩
theorem GaW.upd {w wr : World} {M n : Nat} {P T D : Nat → Int} {m : Nat} {A : Nat → Int} {G : Int → Int → Option Int} {v7 v9 : Value} (h : GaW w wr M n P T D m A G v7 v9) {a b : Int} (ha : fits a) (hb : fits b) (v : Int) :
    ∃ w', (Instr.mapUpdate 73 (.map (some M)) (.agg #[.int .i64 a, .int .i64 b]) (.int .i64 v)).run Try.prog wr = .ok () w' ∧ GaW w w' M n P T D m A (updK G a b v) v7 v9 ∧ (∀ k, k ≠ M → w'.heap[k]? = wr.heap[k]?) ∧ w'.heap.size = wr.heap.size := by
  obtain ⟨w', r1, r2, r3, r4, r5, r6, r7⟩ := h.map.upd ha hb v
  have n1 := own_noM h.nod h.map
  have n2 := own_noM h.at_ h.map
  have hmb := h.mb
  refine ⟨w', r1, ⟨h.nod.blocks (fun k hk => r3 k (fun e => n1 (by rw [hk, e]))), h.at_.blocks (fun k hk => r3 k (fun e => n2 (by rw [hk, e]))), r2, ⟨r5.trans h.low.os, r6.trans h.low.tape, r7.trans h.low.output, by rw [r4]; exact h.low.size, fun k hk => (r3 k (by omega)).trans (h.low.block k hk)⟩, hmb⟩, r3, r4⟩
theorem own_node1 (w : World) (P T D : Nat → Int) : Own (w.alloc (.cells #[.int .i64 (P 0), .int .i64 (T 0), .int .i64 (D 0)] 54)) w.heap.size 54 3 (.slice (some ⟨w.heap.size, 0, none⟩) 1 1) 1 (nds P T D) := by
  refine ⟨by simp, .inr ⟨w.heap.size, 1, _, rfl, Nat.le_refl _, World.alloc_heap_new _ _, Nat.le_refl _, by unfold maxLen; omega, rfl, ?_⟩⟩
  rfl
theorem own_int1 (w : World) (A : Nat → Int) : Own (w.alloc (.cells #[.int .i64 (A 0)] 3)) w.heap.size 3 1 (.slice (some ⟨w.heap.size, 0, none⟩) 1 1) 1 (fun j => .int .i64 (A j)) := by
  refine ⟨by simp, .inr ⟨w.heap.size, 1, _, rfl, Nat.le_refl _, World.alloc_heap_new _ _, Nat.le_refl _, by unfold maxLen; omega, rfl, ?_⟩⟩
  rfl
theorem GaW.start (w : World) (root : Int) : GaW w (((w.alloc (.cells #[.int .i64 (-1), .int .i64 root, .int .i64 0] 54)).alloc (.map #[] 0)).alloc (.cells #[.int .i64 0] 3)) (w.heap.size + 1) 1 (ga0 root).P (ga0 root).T (ga0 root).D 1 (ga0 root).A (fndK (ga0 root).P (ga0 root).T 1) (.slice (some ⟨w.heap.size, 0, none⟩) 1 1) (.slice (some ⟨w.heap.size + 2, 0, none⟩) 1 1) := by
  have e1 : (w.alloc (.cells #[.int .i64 (-1), .int .i64 root, .int .i64 0] 54)).heap.size = w.heap.size + 1 := by simp
  have e2 : ((w.alloc (.cells #[.int .i64 (-1), .int .i64 root, .int .i64 0] 54)).alloc (.map #[] 0)).heap.size = w.heap.size + 2 := by simp
  have m1 := KMap.made (w.alloc (.cells #[.int .i64 (-1), .int .i64 root, .int .i64 0] 54))
  have o1 := own_node1 w (ga0 root).P (ga0 root).T (ga0 root).D
  have o2 := own_int1 ((w.alloc (.cells #[.int .i64 (-1), .int .i64 root, .int .i64 0] 54)).alloc (.map #[] 0)) (ga0 root).A
  have f1 := fresh_alloc (w.alloc (.cells #[.int .i64 (-1), .int .i64 root, .int .i64 0] 54)) (.map #[] 0)
  have f2 := fresh_alloc ((w.alloc (.cells #[.int .i64 (-1), .int .i64 root, .int .i64 0] 54)).alloc (.map #[] 0)) (.cells #[.int .i64 0] 3)
  rw [e1] at m1
  refine ⟨(o1.kept f1).kept f2, ?_, (m1.of_block (f2.block _ m1.lt)).congr (fun a b => rfl), fresh_trans (fresh_trans (fresh_alloc _ _) f1) f2, by omega⟩
  have o3 := o2.weaken (base' := w.heap.size) (by rw [e2]; omega)
  rw [e2] at o3
  exact o3
end Go.Proofs.Ytakekdbclmgeoaa.Cl
