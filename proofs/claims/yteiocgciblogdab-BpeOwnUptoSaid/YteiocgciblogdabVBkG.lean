import Derived.Test.YteiocgciblogdabVBkX
namespace Go.Proofs.Yteiocgciblogdab
open Go.RowKit
/-! The book's apart: lists that are appended to, one by one. -/
theorem cell_lt {w : World} {b o : Nat} {v : Value} (h : w.cell? ⟨b, o, none⟩ = some v) : b < w.heap.size := by
  by_cases hb : b < w.heap.size
  · exact hb
  · have e : w.heap[b]? = none := Array.getElem?_eq_none (by omega)
    simp [World.cell?, e] at h
theorem Rd.app {w w' : World} {u v v' : Value} {n : Nat} {cs : Nat → Value} (h : Rd w u 1 n cs) (happ : App w w' v v') (ho : Off v u) : Rd w' u 1 n cs := by
  obtain ⟨ao, c, rfl, r⟩ := h
  refine ⟨ao, c, rfl, r.le, r.top, fun h0 => ?_⟩
  obtain ⟨b, off, rfl, hc⟩ := r.at_ h0
  refine ⟨b, off, rfl, fun j hj => ?_⟩
  have hne : some b ≠ v.ownBlock := fun e => ho b e.symm rfl
  rw [World.cell?_of_block (happ.grown.block b (cell_lt (hc j hj)) hne)]
  exact hc j hj
theorem Rd.set {w : World} {u : Value} {n : Nat} {cs : Nat → Value} (h : Rd w u 1 n cs) {g j : Nat} {x : Value} (hg : u.ownBlock ≠ some g) : Rd (w.setCell ⟨g, j, none⟩ x) u 1 n cs := by
  obtain ⟨ao, c, rfl, r⟩ := h
  refine ⟨ao, c, rfl, r.le, r.top, fun h0 => ?_⟩
  obtain ⟨b, off, rfl, hc⟩ := r.at_ h0
  refine ⟨b, off, rfl, fun q hq => ?_⟩
  have hne : b ≠ g := fun e => hg (by simp [Value.ownBlock, e])
  rw [World.cell?_of_block (Below.heap_setCell _ _ _ _ (by show b ≠ g; exact hne))]
  exact hc q hq
/-- c: from which list on none is appended to yet; k: how many are -/
structure GrowR (w : World) (base g m c k : Nat) (vL vW vZ : Value) (A B : Nat → Value) (n : Nat → Nat) (F E : Nat → Nat → Value) : Prop where
  row : w.rowIs g 40 3 (three vL vW vZ)
  low : g < base
  L : Own w base 22 1 vL m A
  W : Own w base 22 1 vW k B
  a : ∀ i, c ≤ i → i < m → Own w base 5 1 (A i) (n i) (F i)
  r : ∀ i, i < k → Rd w (A i) 1 (n i) (F i)
  b : ∀ i, i < k → Own w base 5 1 (B i) (n i + 70) (E i)
  ge : ∀ i, i < m → ∀ x, (A i).ownBlock = some x → base ≤ x ∧ x < w.heap.size
  offLW : Off vL vW
  offL : ∀ i, i < m → Off vL (A i)
  offLB : ∀ i, i < k → Off vL (B i)
  offW : ∀ i, i < m → Off vW (A i)
  offWB : ∀ i, i < k → Off vW (B i)
  apart : ∀ i j, i < m → j < m → i ≠ j → Off (A i) (A j)
  ba : ∀ i j, i < k → j < m → i ≠ j → Off (B i) (A j)
/-- a list apart from all of these but A k is appended to -/
theorem GrowR.app {w w' : World} {base g m k : Nat} {vL vW vZ v v' : Value} {A B : Nat → Value} {n : Nat → Nat} {F E : Nat → Nat → Value} (h : GrowR w base g m (k + 1) k vL vW vZ A B n F E) (happ : App w w' v v') (hv : ∀ x, v.ownBlock = some x → base ≤ x) (o1 : Off v vL) (o2 : Off v vW) (o3 : ∀ i, i < m → i ≠ k → Off v (A i)) (o4 : ∀ i, i < k → Off v (B i)) (hk : k < m) :
    GrowR w' base g m (k + 1) k vL vW vZ A B n F E := by
  have hne : some g ≠ v.ownBlock := fun e => by have := hv g e.symm; have := h.low; omega
  refine ⟨h.row.of_block (happ.grown.block g h.row.lt hne), h.low, happ.own h.L o1, happ.own h.W o2, fun i h1 h2 => happ.own (h.a i h1 h2) (o3 i h2 (by omega)), fun i hi => (h.r i hi).app happ (o3 i (by omega) (by omega)), fun i hi => happ.own (h.b i hi) (o4 i hi), fun i hi x hx => ?_, h.offLW, h.offL, h.offLB, h.offW, h.offWB, h.apart, h.ba⟩
  have := h.ge i hi x hx
  have := happ.grown.size
  omega
theorem three_set1 {a b c x : Value} : ∀ i, i < 3 → (if i = 1 then x else three a b c i) = three a x c i := fun i hi => by
  obtain rfl | rfl | rfl : i = 0 ∨ i = 1 ∨ i = 2 := by omega
  all_goals simp [three]
/-- it is written down -/
theorem GrowR.addW {w w6 : World} {base g m k : Nat} {vL vW vW' vZ v : Value} {A B : Nat → Value} {n : Nat → Nat} {F E : Nat → Nat → Value} (h : GrowR w base g m (k + 1) k vL vW vZ A B n F E) (hv : Own w base 5 1 v (n k + 70) (E k)) (hr : Rd w (A k) 1 (n k) (F k)) (hk : k < m) (o1 : Off vL v) (o2 : Off vW v) (o3 : ∀ j, j < m → j ≠ k → Off v (A j))
    (hown : Own w6 base 22 1 vW' (k + 1) (upd B k v)) (happ : App w w6 vW vW') : GrowR (w6.setCell ⟨g, 1, none⟩ vW') base g m (k + 1) (k + 1) vL vW' vZ A (upd B k v) n F E := by
  have hlo := h.low
  have hne : some g ≠ vW.ownBlock := fun e => by have := (h.W.lt g e.symm).1; omega
  have r6 := h.row.of_block (happ.grown.block g h.row.lt hne)
  have lt2 : ∀ i, i < k + 1 → i < k ∨ i = k := fun i hi => by omega
  have hA : ∀ i, i < m → (A i).ownBlock ≠ some g := fun i hi e => by have := (h.ge i hi g e).1; omega
  refine ⟨(r6.set 1 vW').congr three_set1, hlo, OwnSet (happ.own h.L h.offLW.symm) hlo, OwnSet hown hlo, fun i h1 h2 => OwnSet (happ.own (h.a i h1 h2) (h.offW i h2)) hlo, fun i hi => ?_, fun i hi => ?_, fun i hi x hx => ?_, (happ.off h.L h.offLW.symm).symm, h.offL, fun i hi => ?_, fun i hi x hx hx' => ?_, fun i hi => ?_, h.apart, fun i j hi hj hij => ?_⟩
  · rcases lt2 i hi with hi | rfl
    · exact ((h.r i hi).app happ (h.offW i (by omega))).set (hA i (by omega))
    · exact (hr.app happ (h.offW i hk)).set (hA i hk)
  · rcases lt2 i hi with hi | rfl
    · rw [upd_lt _ _ hi]; exact OwnSet (happ.own (h.b i hi) (h.offWB i hi)) hlo
    · rw [upd_at]; exact OwnSet (happ.own hv o2) hlo
  · have := h.ge i hi x hx
    have := happ.grown.size
    simp
    omega
  · rcases lt2 i hi with hi | rfl
    · rw [upd_lt _ _ hi]; exact h.offLB i hi
    · rw [upd_at]; exact o1
  · rcases happ.blk x hx with e | e
    · exact h.offW i hi x e hx'
    · have := (h.ge i hi x hx').2; omega
  · rcases lt2 i hi with hi | rfl
    · rw [upd_lt _ _ hi]; exact happ.off (h.b i hi) (h.offWB i hi)
    · rw [upd_at]; exact happ.off hv o2
  · rcases lt2 i hi with hi | rfl
    · rw [upd_lt _ _ hi]; exact h.ba i j hi hj hij
    · rw [upd_at]; exact o3 j hj (fun e => hij e.symm)
end Go.Proofs.Yteiocgciblogdab
