import Derived.Test.YtlbmgknlbhakoaaVPc2
namespace Go.Proofs.Ytlbmgknlbhakoaa
open Go.RowKit
/-! Lists of bytes. -/
/-- a list of bytes of the call's own -/
def OwnB (w : World) (base : Nat) (v : Value) (l : List Int) : Prop := Own w base 5 1 v l.length (fun j => .int .u8 (l.getD j 0))
theorem off_own {w w' : World} {base : Nat} {e e' : TypeId} {s s' n n' : Nat} {a b : Value} {cs cs' : Nat → Value} (ha : Own w base e s a n cs) (hb : Own w' w.heap.size e' s' b n' cs') : Off a b := fun k hk hb' => by
  have := (ha.lt k hk).2
  have := (hb.lt k hb').1
  omega
theorem ownB_nil (w : World) (base : Nat) : OwnB w base (.slice none 0 0) [] := own_nil _ _ _ _ _
theorem getD_app_lo {a b : List Int} {j : Nat} (h : j < a.length) : (a ++ b).getD j 0 = a.getD j 0 := by simp [List.getD_eq_getElem?_getD, List.getElem?_append, h]
theorem getD_app_hi {a b : List Int} (j : Nat) : (a ++ b).getD (a.length + j) 0 = b.getD j 0 := by
  rw [List.getD_eq_getElem?_getD, List.getElem?_append_right (by omega), show a.length + j - a.length = j by omega, List.getD_eq_getElem?_getD]
theorem own_some {w : World} {base : Nat} {e : TypeId} {sz : Nat} {v : Value} {n : Nat} {cs : Nat → Value} (h : Own w base e sz v n cs) (hn : 0 < n) : ∃ g cap, v = .slice (some ⟨g, 0, none⟩) n cap ∧ base ≤ g ∧ g < w.heap.size ∧ n ≤ cap ∧ cap ≤ maxLen := by
  rcases h.2 with ⟨rfl, rfl⟩ | ⟨g, cap, cur, rfl, hb, hg, hnc, hcm, hcs, htake⟩
  · omega
  · exact ⟨g, cap, rfl, hb, (Array.getElem?_eq_some_iff.1 hg).1, hnc, hcm⟩
theorem Own.rda {w : World} {base : Nat} {e : TypeId} {sz : Nat} {ao : Option Addr} {m cap n : Nat} {cs : Nat → Value} (h : Own w base e sz (.slice ao m cap) n cs) : RdA w ao sz n cap cs := by
  obtain ⟨ao', cap', e, hr⟩ := h.rd
  cases e; exact hr
def two (a b : Value) : Nat → Value := fun i => if i = 0 then a else b
theorem row2 {w : World} {b : Nat} {t : TypeId} {x y : Value} (h : w.rowIs b t 2 (two x y)) : w.cell? ⟨b, 0, none⟩ = some x ∧ w.cell? ⟨b, 1, none⟩ = some y :=
  ⟨h.cell (i := 0) (by decide), h.cell (i := 1) (by decide)⟩
theorem two_set1 {a b c : Value} : ∀ i, i < 2 → (if i = 1 then c else two a b i) = two a c i := by
  intro i hi
  obtain rfl | rfl : i = 0 ∨ i = 1 := by omega
  all_goals rfl
theorem two_set0 {a b c : Value} : ∀ i, i < 2 → (if i = 0 then c else two a b i) = two c b i := by
  intro i hi
  obtain rfl | rfl : i = 0 ∨ i = 1 := by omega
  all_goals rfl
theorem row2_new (w : World) (t : TypeId) (x y : Value) : (w.alloc (.cells #[x, y] t)).rowIs w.heap.size t 2 (two x y) :=
  World.rowIs_alloc w #[x, y] t (two x y) (fun i hi => by
    have hi : i < 2 := hi
    obtain rfl | rfl : i = 0 ∨ i = 1 := by omega
    all_goals rfl)
end Go.Proofs.Ytlbmgknlbhakoaa
