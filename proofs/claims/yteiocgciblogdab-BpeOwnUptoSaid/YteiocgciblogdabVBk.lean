import Derived.Test.YteiocgciblogdabVBkS
import Derived.Test.YteiocgciblogdabVPie
namespace Go.Proofs.Yteiocgciblogdab
open Go.RowKit
/-! The book: lists that are noted, each in a block of its own, and a copy of each. -/
def three (a b c : Value) : Nat → Value := fun i => if i = 0 then a else if i = 1 then b else c
theorem OwnSet {w : World} {base : Nat} {e : TypeId} {sz : Nat} {v : Value} {n : Nat} {cs : Nat → Value} (h : Own w base e sz v n cs) {g j : Nat} {x : Value} (hg : g < base) : Own (w.setCell ⟨g, j, none⟩ x) base e sz v n cs := by
  refine ⟨h.1, ?_⟩
  rcases h.2 with hn | ⟨k, cap, cur, rfl, hb, hgg, rest⟩
  · exact .inl hn
  · refine .inr ⟨k, cap, cur, rfl, hb, ?_, rest⟩
    rw [Below.heap_setCell _ _ _ _ (by show k ≠ g; omega)]; exact hgg
structure BookR (w : World) (base g m k : Nat) (vL vZ : Value) (A Z : Nat → Value) (l : Nat → List Int) : Prop where
  row : w.rowIs g 40 3 (three vL (.slice none 0 0) vZ)
  low : g < base
  L : Own w base 22 1 vL m A
  top : Own w base 22 1 vZ k Z
  a : ∀ i, i < m → OwnB w base (A i) (l i)
  z : ∀ i, i < k → OwnB w base (Z i) (l i)
  off : Off vL vZ
  offL : ∀ i, i < m → Off vL (A i)
  offLZ : ∀ i, i < k → Off vL (Z i)
  offZ : ∀ i, i < m → Off vZ (A i)
  offZZ : ∀ i, i < k → Off vZ (Z i)
  apart : ∀ i j, i < m → j < m → i ≠ j → Off (A i) (A j)
  az : ∀ i j, i < m → j < k → Off (A i) (Z j)
theorem BookR.kept {w w' : World} {base g m k : Nat} {vL vZ : Value} {A Z : Nat → Value} {l : Nat → List Int} (h : BookR w base g m k vL vZ A Z l) (f : Below w.heap.size w w') : BookR w' base g m k vL vZ A Z l :=
  ⟨h.row.of_block (f.block _ h.row.lt), h.low, h.L.kept f, h.top.kept f, fun i hi => Own.kept (h.a i hi) f, fun i hi => Own.kept (h.z i hi) f, h.off, h.offL, h.offLZ, h.offZ, h.offZZ, h.apart, h.az⟩
theorem three_set0 {a b c x : Value} : ∀ i, i < 3 → (if i = 0 then x else three a b c i) = three x b c i := fun i _ => by
  unfold three; by_cases h : i = 0 <;> simp [h]
theorem three_set2 {a b c x : Value} : ∀ i, i < 3 → (if i = 2 then x else three a b c i) = three a b x i := fun i hi => by
  obtain rfl | rfl | rfl : i = 0 ∨ i = 1 ∨ i = 2 := by omega
  all_goals simp [three]
theorem BookR.addL {w w6 : World} {base g m k : Nat} {vL vZ vL' v : Value} {A Z : Nat → Value} {l : Nat → List Int} (h : BookR w base g m k vL vZ A Z l) (hv : OwnB w base v (l m)) (o1 : Off vL v) (o2 : Off vZ v) (o3 : ∀ i, i < m → Off (A i) v) (o4 : ∀ j, j < k → Off v (Z j))
    (hown : Own w6 base 22 1 vL' (m + 1) (upd A m v)) (happ : App w w6 vL vL') : BookR (w6.setCell ⟨g, 0, none⟩ vL') base g (m + 1) k vL' vZ (upd A m v) Z l := by
  have hne : vL.ownBlock ≠ some g := fun e => by have := (h.L.lt g e).1; have := h.low; omega
  have r6 := h.row.of_block (happ.grown.block g h.row.lt hne.symm)
  have lt2 : ∀ i, i < m + 1 → i < m ∨ i = m := fun i hi => by omega
  refine ⟨(r6.set 0 vL').congr three_set0, h.low, OwnSet hown h.low, OwnSet (happ.own h.top h.off) h.low, fun i hi => ?_, fun i hi => OwnSet (happ.own (h.z i hi) (h.offLZ i hi)) h.low, happ.off h.top h.off, fun i hi => ?_, fun i hi => happ.off (h.z i hi) (h.offLZ i hi), fun i hi => ?_, h.offZZ, fun i j hi hj hij => ?_, fun i j hi hj => ?_⟩
  · rcases lt2 i hi with hi | rfl
    · rw [upd_lt _ _ hi]; exact OwnSet (happ.own (h.a i hi) (h.offL i hi)) h.low
    · rw [upd_at]; exact OwnSet (happ.own hv o1) h.low
  · rcases lt2 i hi with hi | rfl
    · rw [upd_lt _ _ hi]; exact happ.off (h.a i hi) (h.offL i hi)
    · rw [upd_at]; exact happ.off hv o1
  · rcases lt2 i hi with hi | rfl
    · rw [upd_lt _ _ hi]; exact h.offZ i hi
    · rw [upd_at]; exact o2
  · rcases lt2 i hi with hi | rfl
    · rcases lt2 j hj with hj | rfl
      · rw [upd_lt _ _ hi, upd_lt _ _ hj]; exact h.apart i j hi hj hij
      · rw [upd_lt _ _ hi, upd_at]; exact o3 i hi
    · rcases lt2 j hj with hj | rfl
      · rw [upd_lt _ _ hj, upd_at]; exact (o3 j hj).symm
      · exact absurd rfl hij
  · rcases lt2 i hi with hi | rfl
    · rw [upd_lt _ _ hi]; exact h.az i j hi hj
    · rw [upd_at]; exact o4 j hj
theorem BookR.addZ {w w6 : World} {base g m k : Nat} {vL vZ vZ' v : Value} {A Z : Nat → Value} {l : Nat → List Int} (h : BookR w base g m k vL vZ A Z l) (hv : OwnB w base v (l k)) (o1 : Off vL v) (o2 : Off vZ v) (o3 : ∀ i, i < m → Off (A i) v)
    (hown : Own w6 base 22 1 vZ' (k + 1) (upd Z k v)) (happ : App w w6 vZ vZ') : BookR (w6.setCell ⟨g, 2, none⟩ vZ') base g m (k + 1) vL vZ' A (upd Z k v) l := by
  have hne : vZ.ownBlock ≠ some g := fun e => by have := (h.top.lt g e).1; have := h.low; omega
  have r6 := h.row.of_block (happ.grown.block g h.row.lt hne.symm)
  have lt2 : ∀ i, i < k + 1 → i < k ∨ i = k := fun i hi => by omega
  refine ⟨(r6.set 2 vZ').congr three_set2, h.low, OwnSet (happ.own h.L h.off.symm) h.low, OwnSet hown h.low, fun i hi => OwnSet (happ.own (h.a i hi) (h.offZ i hi)) h.low, fun i hi => ?_, (happ.off h.L h.off.symm).symm, h.offL, fun i hi => ?_, fun i hi => happ.off (h.a i hi) (h.offZ i hi), fun i hi => ?_, h.apart, fun i j hi hj => ?_⟩
  · rcases lt2 i hi with hi | rfl
    · rw [upd_lt _ _ hi]; exact OwnSet (happ.own (h.z i hi) (h.offZZ i hi)) h.low
    · rw [upd_at]; exact OwnSet (happ.own hv o2) h.low
  · rcases lt2 i hi with hi | rfl
    · rw [upd_lt _ _ hi]; exact h.offLZ i hi
    · rw [upd_at]; exact o1
  · rcases lt2 i hi with hi | rfl
    · rw [upd_lt _ _ hi]; exact happ.off (h.z i hi) (h.offZZ i hi)
    · rw [upd_at]; exact happ.off hv o2
  · rcases lt2 j hj with hj | rfl
    · rw [upd_lt _ _ hj]; exact h.az i j hi hj
    · rw [upd_at]; exact o3 i hi
end Go.Proofs.Yteiocgciblogdab
