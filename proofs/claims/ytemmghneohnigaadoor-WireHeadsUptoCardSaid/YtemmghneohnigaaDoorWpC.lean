import Derived.Test.YtemmghneohnigaaDoorWpB
import Derived.Lib.ItoaLen
import Derived.Lib.AtoiErrMem
namespace Go.Proofs.YtemmghneohnigaaDoor
open Go.RowKit
/-! The reader: upToBlank, number, id, literal. -/
theorem Byt.tw {r : List Int} (h : Byt r) : Byt (tw r) := by
  have := h
  rw [← tw_dw r] at this
  exact this.left
theorem Byt.dw {r : List Int} (h : Byt r) : Byt (dw r) := by
  have := h
  rw [← tw_dw r] at this
  exact this.right
set_option maxRecDepth 20000 in
theorem upto_any {w : World} {rb : Nat} {r : List Int} {f : Bool} (h : Rdr w rb r f) (hB : Byt r) (hl : r.length ≤ 281474976710656) :
    Calls Tryd.prog 34 #[.pointer (some ⟨rb, 0, none⟩)] w fun e w' => e = .returned (.string (strOfNums (tw r))) ∧ Rdr w' rb (dw r) f ∧ Chg w w' (fun b => b = rb) := by
  obtain ⟨c0, c1, fz, _⟩ := h.cells
  have f0 := fz 0
  have hsz : (strOfNums r).size = r.length := strOfNums_size r
  have hx := idx_any r hB
  have HX := hidd (fun w => Tryd.strings_IndexByte (strOfNums r) 32 w)
  rw [strOfNums_data, hx] at HX
  have HR := hidd (h.rest (dw r))
  have HG := hidd (Chg.of_set w rb 0 (.string (strOfNums (dw r))))
  have hcat := congrArg List.length (tw_dw r)
  rw [List.length_append] at hcat
  have hall := tw_dw r
  have x1 := str_ext r 0 (tw r).length
  have x2 := str_ext r (tw r).length r.length
  have e1 : (r.take (tw r).length).drop 0 = tw r := by
    rw [List.drop_zero]
    have : (tw r ++ dw r).take (tw r).length = tw r := by simp
    rwa [tw_dw] at this
  have e2 : (r.take r.length).drop (tw r).length = dw r := by
    rw [List.take_length]
    have : (tw r ++ dw r).drop (tw r).length = dw r := by simp
    rwa [tw_dw] at this
  rw [e1] at x1
  rw [e2] at x2
  clear h fz hx e1 e2 hall
  obtain ⟨n, en⟩ : ∃ n, n = r.length := ⟨_, rfl⟩
  obtain ⟨m, em⟩ : ∃ m, m = (tw r).length := ⟨_, rfl⟩
  rw [← en] at hsz hcat x2 hl
  rw [← em] at hcat x1 x2 HX
  have hmn : m ≤ n := by omega
  by_cases hd : dw r = []
  · rw [if_pos hd] at HX
    have hmm : m = n := by rw [hd] at hcat; simpa using hcat
    subst hmm
    rw [hd] at HR HG ⊢
    rw [s0] at HR HG
    clear hd hcat en em hmn x2
    generalize strOfNums (tw r) = st at *
    generalize strOfNums r = s at *
    go_enter Tryd.func34, Tryd.ntmps34
    go_wp2_with (go_at_call 50; with_reducible refine (HX.out _).mono ?_; rintro e w1 ⟨rfl, hw1⟩; rw [hw1]; clear hw1)
    go_ret
    exact ⟨rfl, HR.out, HG.out⟩
  · rw [if_neg hd] at HX
    clear hd hcat en em
    have b0 : decide ((m : Int) < 0) = false := by simp
    generalize strOfNums (dw r) = sd at *
    generalize strOfNums (tw r) = st at *
    generalize strOfNums r = s at *
    go_enter Tryd.func34, Tryd.ntmps34
    go_wp2_with (go_at_call 50; with_reducible refine (HX.out _).mono ?_; rintro e w1 ⟨rfl, hw1⟩; rw [hw1]; clear hw1)
    go_ret
    exact ⟨rfl, HR.out, HG.out⟩
theorem below_bw (w : World) (t : ByteArray) : Below w.heap.size w (Lib.bytesWorld w 5 t) := Lib.bytesWorld_below _ _ _
theorem pint_ok {n : Int} (h0 : -9223372036854775808 ≤ n) (h1 : n ≤ 9223372036854775807) (w : World) :
    Calls Tryd.prog 53 #[.string (strOfNums (numL n)), .int .i64 10, .int .i64 64] w fun e w' => e = .returned (.tuple #[.int .i64 n, .nilIface]) ∧ Below w.heap.size w w' := by
  have hz : (strOfNums (numL n)).size ≤ 9223372036854775806 := by
    rw [strOfNums_size]
    unfold numL numsU
    have := Lib.itoa_length_le n h0 h1
    simp
    omega
  refine (Tryd.strconv_ParseInt_10_at64_ok (strOfNums (numL n)) hz n (by unfold numL; rw [numsU_data]; exact intB_itoa h0 h1) w).mono ?_
  rintro e w' ⟨rfl, rfl | ⟨t, rfl⟩⟩
  · exact ⟨rfl, Below.refl _ _⟩
  · exact ⟨rfl, below_bw _ _⟩
theorem below_gr (w : World) (k : Nat) (os : Array Obj) : Below w.heap.size w (Sort.grow (w.drewN k) os) :=
  ⟨rfl, rfl, rfl, by simp [Sort.grow], fun b hb => by simp [Sort.grow, Array.getElem?_append_left, hb]⟩
theorem fint_any {n : Int} (h0 : -9223372036854775808 ≤ n) (h1 : n ≤ 9223372036854775807) {w : World} (hE : Env w) :
    Calls Tryd.prog 54 #[.int .i64 n, .int .i64 10] w fun e w' => e = .returned (.string (strOfNums (numL n))) ∧ Below w.heap.size w w' := by
  refine (Tryd.strconv_FormatInt_10 n h0 h1 w hE.tab).mono ?_
  rintro e w' ⟨rfl, k, os, rfl⟩
  exact ⟨by rw [numsU_str]; rfl, below_gr _ _ _⟩
end Go.Proofs.YtemmghneohnigaaDoor
