import Derived.Test.YteiocgciblogdabVPc2
import Derived.Test.YteiocgciblogdabVTwin
namespace Go.Proofs.Yteiocgciblogdab
open Go.RowKit
/-! The reference's piece. -/
/-- a list of bytes of the call's own -/
def OwnB (w : World) (base : Nat) (v : Value) (l : List Int) : Prop := Own w base 5 1 v l.length (fun j => .int .u8 (l.getD j 0))
theorem off_own {w w' : World} {base : Nat} {e e' : TypeId} {s s' n n' : Nat} {a b : Value} {cs cs' : Nat → Value} (ha : Own w base e s a n cs) (hb : Own w' w.heap.size e' s' b n' cs') : Off a b := fun k hk hb' => by
  have := (ha.lt k hk).2
  have := (hb.lt k hb').1
  omega
theorem ownB_nil (w : World) (base : Nat) : OwnB w base (.slice none 0 0) [] := own_nil _ _ _ _ _
theorem getD_app_lo {a b : List Int} {j : Nat} (h : j < a.length) : (a ++ b).getD j 0 = a.getD j 0 := by simp [List.getD_eq_getElem?_getD, List.getElem?_append, h]
theorem getD_app_hi {a b : List Int} (j : Nat) : (a ++ b).getD (a.length + j) 0 = b.getD j 0 := by
  rw [List.getD_eq_getElem?_getD, List.getElem?_append_right (by omega), show a.length + j - a.length = j by omega, List.getD_eq_getElem?_getD]
end Go.Proofs.Yteiocgciblogdab
