import Derived.Test.YtemmghneohnigaaDoorWuF
import Derived.Test.YtemmghneohnigaaDoorWpO
namespace Go.Proofs.YtemmghneohnigaaDoor
open Go.RowKit
/-! The reader: must, blank, upToBlank, more, ends. -/
/-- a reader in memory -/
def Rdr (w : World) (rb : Nat) (r : List Int) (f : Bool) : Prop := w.heap[rb]? = some (.cells #[.string (strOfNums r), .bool f] 72 (0, 0))
theorem Rdr.cells {w : World} {rb : Nat} {r : List Int} {f : Bool} (h : Rdr w rb r f) : w.cell? ⟨rb, 0, none⟩ = some (.string (strOfNums r)) ∧ w.cell? ⟨rb, 1, none⟩ = some (.bool f) ∧ (∀ j, w.frozen? ⟨rb, j, none⟩ = false) ∧ rb < w.heap.size := by
  unfold Rdr at h
  exact ⟨by simp [World.cell?, h], by simp [World.cell?, h], fun j => by simp [World.frozen?, h], (Array.getElem?_eq_some_iff.1 h).1⟩
theorem Rdr.chg {w w' : World} {rb : Nat} {r : List Int} {f : Bool} {S : Nat → Prop} (h : Rdr w rb r f) (c : Chg w w' S) (hS : ¬ S rb) : Rdr w' rb r f := by
  unfold Rdr at *
  rw [c.block rb (Array.getElem?_eq_some_iff.1 h).1 hS]; exact h
theorem Rdr.fresh {w w' : World} {rb : Nat} {r : List Int} {f : Bool} (h : Rdr w rb r f) (c : Below w.heap.size w w') : Rdr w' rb r f := h.chg (Chg.of_below (fun _ => False) c) (fun h => h)
theorem Rdr.rest {w : World} {rb : Nat} {r : List Int} {f : Bool} (h : Rdr w rb r f) (r' : List Int) : Rdr (w.setCell ⟨rb, 0, none⟩ (.string (strOfNums r'))) rb r' f := by
  unfold Rdr at *
  rw [setCell_eq_setRow w rb 0 _ _ _ _ h, setRow_heap w rb _ _ _ _ h]
  rfl
theorem Rdr.fail {w : World} {rb : Nat} {r : List Int} {f : Bool} (h : Rdr w rb r f) (f' : Bool) : Rdr (w.setCell ⟨rb, 1, none⟩ (.bool f')) rb r f' := by
  unfold Rdr at *
  rw [setCell_eq_setRow w rb 1 _ _ _ _ h, setRow_heap w rb _ _ _ _ h]
  rfl
theorem s0 : strOfNums [] = ⟨#[]⟩ := rfl
set_option maxRecDepth 20000 in
theorem must_bad {w : World} {rb : Nat} {r : List Int} {f : Bool} (h : Rdr w rb r f) :
    Calls Tryd.prog 51 #[.pointer (some ⟨rb, 0, none⟩), .bool false] w fun e w' => e = .returned (.tuple #[]) ∧ Rdr w' rb [] true ∧ Chg w w' (fun b => b = rb) := by
  obtain ⟨c0, c1, fz, _⟩ := h.cells
  have f0 := fz 0
  have f1 := fz 1
  have HR := hidd ((h.rest []).fail true)
  have HC := hidd ((Chg.of_set w rb 0 (.string (strOfNums []))).trans (Chg.of_set _ rb 1 (.bool true)) (fun _ _ h => h))
  rw [s0] at HR HC
  clear h fz
  go_enter Tryd.func51, Tryd.ntmps51
  go_wp2
  go_end0
  exact ⟨rfl, HR.out, HC.out⟩
set_option maxRecDepth 20000 in
theorem must_ok (rb : Nat) (w : World) :
    Calls Tryd.prog 51 #[.pointer (some ⟨rb, 0, none⟩), .bool true] w fun e w' => e = .returned (.tuple #[]) ∧ w' = w := by
  go_enter Tryd.func51, Tryd.ntmps51
  go_wp2
  go_end0
  exact ⟨rfl, rfl⟩
theorem b32 : Byt [32] := byt_cons (by omega) byt_nil
theorem s32 : strOfNums [32] = ⟨#[32]⟩ := rfl
set_option maxRecDepth 20000 in
theorem blank_ok {w : World} {rb : Nat} {r : List Int} {f : Bool} (h : Rdr w rb (32 :: r) f) (hB : Byt r) :
    Calls Tryd.prog 52 #[.pointer (some ⟨rb, 0, none⟩)] w fun e w' => e = .returned (.tuple #[]) ∧ Rdr w' rb r f ∧ Chg w w' (fun b => b = rb) := by
  obtain ⟨c0, c1, fz, _⟩ := h.cells
  have f0 := fz 0
  have HC := hidd (fun w => cutp_any (t := 32 :: r) (p := [32]) (byt_cons (by omega) hB) b32 w)
  have hp : [32] <+: 32 :: r := ⟨r, rfl⟩
  simp only [hp, decide_true, if_true, s32] at HC
  rw [show List.drop [(32 : Int)].length (32 :: r) = r from rfl] at HC
  have HM := hidd (must_ok rb)
  have HR := hidd (h.rest r)
  have HG := hidd (Chg.of_set w rb 0 (.string (strOfNums r)))
  clear h fz hp
  generalize strOfNums (32 :: r) = s1 at *
  generalize strOfNums r = s2 at *
  go_enter Tryd.func52, Tryd.ntmps52
  go_wp2_with (first | (go_at_call 24; with_reducible refine (HC.out _).mono ?_; rintro e w1 ⟨rfl, hw1⟩; rw [hw1]; clear hw1) | (go_at_call 51; with_reducible refine (HM.out _).mono ?_; rintro e w1 ⟨rfl, hw1⟩; rw [hw1]; clear hw1))
  go_end0
  exact ⟨rfl, HR.out, HG.out⟩
set_option maxRecDepth 20000 in
theorem blank_bad {w : World} {rb : Nat} {r : List Int} {f : Bool} (h : Rdr w rb r f) (hB : Byt r) (hn : ¬ [32] <+: r) :
    Calls Tryd.prog 52 #[.pointer (some ⟨rb, 0, none⟩)] w fun e w' => e = .returned (.tuple #[]) ∧ Rdr w' rb [] true ∧ Chg w w' (fun b => b = rb) := by
  obtain ⟨c0, c1, fz, _⟩ := h.cells
  have f0 := fz 0
  have HC := hidd (fun w => cutp_any hB b32 w)
  simp only [hn, decide_false, if_false, s32] at HC
  have HM := hidd (must_bad (h.rest r))
  have HG := hidd (Chg.of_set w rb 0 (.string (strOfNums r)))
  clear h fz hn
  generalize strOfNums r = s2 at *
  go_enter Tryd.func52, Tryd.ntmps52
  go_wp2_with (first | (go_at_call 24; with_reducible refine (HC.out _).mono ?_; rintro e w1 ⟨rfl, hw1⟩; rw [hw1]; clear hw1) | (go_at_call 51; with_reducible refine (HM.out).mono ?_; rintro e w2 ⟨rfl, hr2, hc2⟩))
  go_end0
  exact ⟨rfl, hr2, HG.out.trans hc2 (fun _ _ h => h)⟩
set_option maxRecDepth 20000 in
theorem more_any {w : World} {rb : Nat} {r : List Int} {f : Bool} (h : Rdr w rb r f) :
    Calls Tryd.prog 55 #[.pointer (some ⟨rb, 0, none⟩)] w fun e w' => e = .returned (.bool (!r.isEmpty)) ∧ w' = w := by
  obtain ⟨c0, c1, fz, _⟩ := h.cells
  have he : (strOfNums r).toList.isEmpty = r.isEmpty := by
    rw [ByteArray.toList_eq, strOfNums_data]
    cases r <;> rfl
  obtain ⟨q, eq⟩ : ∃ q, q = r.isEmpty := ⟨_, rfl⟩
  rw [← eq] at he ⊢
  clear h fz eq
  generalize strOfNums r = s2 at *
  go_enter Tryd.func55, Tryd.ntmps55
  go_wp2
  go_ret
  exact ⟨by first | rfl | (cases q <;> simp_all), rfl⟩
set_option maxRecDepth 20000 in
theorem ends_any {w : World} {rb : Nat} {r : List Int} {f : Bool} (h : Rdr w rb r f) :
    Calls Tryd.prog 37 #[.pointer (some ⟨rb, 0, none⟩)] w fun e w' => e = .returned (.bool (!f && r.isEmpty)) ∧ w' = w := by
  obtain ⟨c0, c1, fz, _⟩ := h.cells
  have HM := hidd (more_any h)
  obtain ⟨q, eq⟩ : ∃ q, q = r.isEmpty := ⟨_, rfl⟩
  rw [← eq] at HM ⊢
  clear h fz eq
  cases f with
  | true =>
    go_enter Tryd.func37, Tryd.ntmps37
    go_wp2
    go_ret
    exact ⟨rfl, rfl⟩
  | false =>
    go_enter Tryd.func37, Tryd.ntmps37
    go_wp2_with (go_at_call 55; with_reducible refine (HM.out).mono ?_; rintro e w1 ⟨rfl, hw1⟩; rw [hw1]; clear hw1)
    go_ret
    exact ⟨by cases q <;> rfl, rfl⟩
end Go.Proofs.YtemmghneohnigaaDoor
