import Derived.Test.YteiocgciblogdabVBkG
namespace Go.Proofs.Yteiocgciblogdab
open Go.RowKit
/-! The book's apart: seventy numbers behind one list. -/
theorem GrowR.kept {w w' : World} {base g m c k : Nat} {vL vW vZ : Value} {A B : Nat → Value} {n : Nat → Nat} {F E : Nat → Nat → Value} (h : GrowR w base g m c k vL vW vZ A B n F E) (f : Below w.heap.size w w') : GrowR w' base g m c k vL vW vZ A B n F E :=
  ⟨h.row.of_block (f.block _ h.row.lt), h.low, h.L.kept f, h.W.kept f, fun i h1 h2 => (h.a i h1 h2).kept f, fun i hi => (h.r i hi).fresh f, fun i hi => (h.b i hi).kept f, fun i hi x hx => ⟨(h.ge i hi x hx).1, Nat.lt_of_lt_of_le (h.ge i hi x hx).2 f.size⟩, h.offLW, h.offL, h.offLB, h.offW, h.offWB, h.apart, h.ba⟩
theorem Beside.kept {w w' : World} {u v : Value} {n : Nat} {cs : Nat → Value} (h : Beside w u v n cs) (f : Below w.heap.size w w') : Beside w' u v n cs := by
  rcases h with h | ⟨h1, h2⟩
  · exact .inl h
  · exact .inr ⟨h1, h2.fresh f⟩
/-- the state while list k is appended to -/
structure GI (w0 w : World) (base g m k : Nat) (vL vW vZ : Value) (A B : Nat → Value) (n : Nat → Nat) (F E : Nat → Nat → Value) (v : Value) (t : Nat) : Prop where
  G : GrowR w base g m (k + 1) k vL vW vZ A B n F E
  hk : k < m
  own : Own w base 5 1 v (n k + t) (E k)
  bes : Beside w (A k) v (n k) (F k)
  frm : ∃ ao ca, A k = .slice ao (n k) ca ∧ n k ≤ ca ∧ ca ≤ maxLen ∧ (0 < n k → ∃ b, ao = some ⟨b, 0, none⟩)
  same : ∀ q, q < n k → E k q = F k q
  o1 : Off v vL
  o2 : Off v vW
  o3 : ∀ i, i < m → i ≠ k → Off v (A i)
  o4 : ∀ i, i < k → Off v (B i)
  old : ∀ x, v.ownBlock = some x → x < w0.heap.size → (A k).ownBlock = some x
  sz : w0.heap.size ≤ w.heap.size
theorem GI.kept {w0 w w' : World} {base g m k : Nat} {vL vW vZ : Value} {A B : Nat → Value} {n : Nat → Nat} {F E : Nat → Nat → Value} {v : Value} {t : Nat} (h : GI w0 w base g m k vL vW vZ A B n F E v t) (f : Below w.heap.size w w') : GI w0 w' base g m k vL vW vZ A B n F E v t :=
  ⟨h.G.kept f, h.hk, h.own.kept f, h.bes.kept f, h.frm, h.same, h.o1, h.o2, h.o3, h.o4, h.old, Nat.le_trans h.sz f.size⟩
/-- list k itself, as it is read -/
theorem GI.rd {w0 w : World} {base g m k : Nat} {vL vW vZ : Value} {A B : Nat → Value} {n : Nat → Nat} {F E : Nat → Nat → Value} {v : Value} {t : Nat} (h : GI w0 w base g m k vL vW vZ A B n F E v t) : Rd w (A k) 1 (n k) (F k) := by
  rcases h.bes with hb | ⟨_, hr⟩
  · obtain ⟨ao, ca, e, h1, h2, h3⟩ := h.frm
    rw [e] at hb ⊢
    refine ⟨ao, ca, rfl, h1, h2, fun h0 => ?_⟩
    obtain ⟨b, rfl⟩ := h3 h0
    obtain ⟨g', cap, e2, _⟩ := own_some h.own (by omega)
    have ho := h.own
    rw [e2] at hb ho
    have e3 : g' = b := by simpa [Value.ownBlock] using hb
    subst e3
    obtain ⟨b', o', e4, hc⟩ := ho.rda.one (by omega)
    cases e4
    refine ⟨_, 0, rfl, fun j hj => ?_⟩
    rw [hc j (by omega), h.same j (by omega)]
  · exact hr
theorem GI.next {w0 w w' : World} {base g m k : Nat} {vL vW vZ : Value} {A B : Nat → Value} {n : Nat → Nat} {F E : Nat → Nat → Value} {v v' : Value} {t : Nat} (h : GI w0 w base g m k vL vW vZ A B n F E v t) (hown : Own w' base 5 1 v' (n k + t + 1) (E k)) (happ : App w w' v v') (hx : v'.ownBlock = v.ownBlock ∨ Below w.heap.size w w') : GI w0 w' base g m k vL vW vZ A B n F E v' (t + 1) := by
  refine ⟨h.G.app happ (fun x e => (h.own.lt x e).1) h.o1 h.o2 h.o3 h.o4 h.hk, h.hk, by rw [← Nat.add_assoc]; exact hown, h.bes.next (fun b hb => (h.G.ge k h.hk b hb).2) happ hx (fun _ => h.rd), h.frm, h.same, happ.off h.G.L h.o1, happ.off h.G.W h.o2, fun i hi hik x hx1 hx2 => ?_, fun i hi => happ.off (h.G.b i hi) (h.o4 i hi), fun x hx1 hx2 => ?_, Nat.le_trans h.sz happ.grown.size⟩
  · rcases happ.blk x hx1 with e | e
    · exact h.o3 i hi hik x e hx2
    · have := (h.G.ge i hi x hx2).2; omega
  · rcases happ.blk x hx1 with e | e
    · exact h.old x e hx2
    · have := h.sz; omega
theorem GI.start {w0 w : World} {base g m k : Nat} {vL vW vZ : Value} {A B : Nat → Value} {n : Nat → Nat} {F E : Nat → Nat → Value} (h : GrowR w base g m k k vL vW vZ A B n F E) (hk : k < m) (same : ∀ q, q < n k → E k q = F k q) (sz : w0.heap.size ≤ w.heap.size) : GI w0 w base g m k vL vW vZ A B n F E (A k) 0 := by
  have ho := h.a k (Nat.le_refl _) hk
  refine ⟨⟨h.row, h.low, h.L, h.W, fun i h1 h2 => h.a i (by omega) h2, h.r, h.b, h.ge, h.offLW, h.offL, h.offLB, h.offW, h.offWB, h.apart, h.ba⟩, hk, ho.congr (fun j hj => (same j (by omega)).symm), .inl rfl, ?_, same, (h.offL k hk).symm, (h.offW k hk).symm, fun i hi hik => h.apart k i hk hi (fun e => hik e.symm), fun i hi => (h.ba i k hi hk (by omega)).symm, fun x hx _ => hx, sz⟩
  obtain ⟨ao, ca, e, r⟩ := ho.rd
  refine ⟨ao, ca, e, r.le, r.top, fun h0 => ?_⟩
  obtain ⟨g', cap, e2, _⟩ := own_some ho h0
  rw [e] at e2
  cases e2
  exact ⟨_, rfl⟩
end Go.Proofs.Yteiocgciblogdab
