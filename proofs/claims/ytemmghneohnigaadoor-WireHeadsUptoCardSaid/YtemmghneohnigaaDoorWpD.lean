import Derived.Test.YtemmghneohnigaaDoorWpC
namespace Go.Proofs.YtemmghneohnigaaDoor
open Go.RowKit
/-! The reader: number, id, literal, where they go well. -/
set_option maxRecDepth 20000 in
set_option maxHeartbeats 1000000 in
theorem number_ok {w : World} {rb : Nat} {q : List Int} {f : Bool} {n : Int} (h : Rdr w rb (32 :: q) f) (hB : Byt q) (hl : q.length ≤ 281474976710656) (h6 : 6 ≤ rb) (hE : Env w) (h0 : -9223372036854775808 ≤ n) (h1 : n ≤ 9223372036854775807) (ht : tw q = numL n) :
    Calls Tryd.prog 36 #[.pointer (some ⟨rb, 0, none⟩)] w fun e w' => e = .returned (.int .i64 n) ∧ Rdr w' rb (dw q) f ∧ Chg w w' (fun b => b = rb) := by
  have H1 := hidd (blank_ok h hB)
  have H2 := hidd (fun (w1 : World) (h1 : Rdr w1 rb q f) => upto_any h1 hB hl)
  rw [ht] at H2
  have H3 := hidd (fun w => pint_ok h0 h1 w)
  have H4 := hidd (fun (w1 : World) (hE1 : Env w1) => fint_any h0 h1 hE1)
  have H5 := hidd (must_ok rb)
  have HE := hidd hE
  have he : ((strOfNums (numL n)).toList == (strOfNums (numL n)).toList) = true := by simp
  clear h hE ht
  generalize strOfNums (numL n) = s at *
  go_enter Tryd.func36, Tryd.ntmps36
  go_upto_region 2 with (go_at_call 52; with_reducible refine (H1.out).mono ?_; rintro e w1 ⟨rfl, r1, k1⟩)
  go_upto_region 3 with (go_at_call 34; with_reducible refine (H2.out _ r1).mono ?_; rintro e w2 ⟨rfl, r2, k2⟩)
  go_upto_region 4 with (go_at_call 53; with_reducible refine (H3.out _).mono ?_; rintro e w3 ⟨rfl, f3⟩)
  have k3 := (k1.trans k2 (fun _ _ h => h)).post f3
  have HE3 := hidd (HE.out.chg k3 (fun b hb => by rw [hb]; exact h6))
  have r3 := r2.fresh f3
  have R3 := hidd r3
  have K3 := hidd k3
  clear r1 r2 r3 k1 k2 k3 f3
  go_wp2_with (first | (go_at_call 54; with_reducible refine (H4.out _ HE3.out).mono ?_; rintro e w4 ⟨rfl, f4⟩) | (go_at_call 51; with_reducible refine (H5.out _).mono ?_; rintro e w5 ⟨rfl, hw5⟩; rw [hw5]; clear hw5))
  go_ret
  exact ⟨rfl, R3.out.fresh f4, K3.out.post f4⟩
set_option maxRecDepth 20000 in
theorem isid_any (n : Int) (w : World) : Calls Tryd.prog 30 #[.int .i64 n] w fun e w' => e = .returned (.bool (decide (0 ≤ n ∧ n ≤ 2147483647))) ∧ w' = w := by
  by_cases h0 : 0 ≤ n
  · have b0 : decide (0 ≤ n) = true := by simp [h0]
    have E : Hid (decide (0 ≤ n ∧ n ≤ 2147483647) = decide (n ≤ 2147483647)) := by show _ = _; simp [h0]
    go_enter Tryd.func30, Tryd.ntmps30
    go_wp2
    go_ret
    exact ⟨by first | exact ret_bool E.out.symm | rfl, rfl⟩
  · have b0 : decide (0 ≤ n) = false := by simp [h0]
    have E : Hid (decide (0 ≤ n ∧ n ≤ 2147483647) = false) := by show _ = _; simp [h0]
    go_enter Tryd.func30, Tryd.ntmps30
    go_wp2
    go_ret
    exact ⟨by first | exact ret_bool E.out.symm | rfl, rfl⟩
set_option maxRecDepth 20000 in
theorem id_ok {w : World} {rb : Nat} {q : List Int} {f : Bool} {n : Int} (h : Rdr w rb (32 :: q) f) (hB : Byt q) (hl : q.length ≤ 281474976710656) (h6 : 6 ≤ rb) (hE : Env w) (h0 : 0 ≤ n) (h1 : n ≤ 2147483647) (ht : tw q = numL n) :
    Calls Tryd.prog 35 #[.pointer (some ⟨rb, 0, none⟩)] w fun e w' => e = .returned (.int .i64 n) ∧ Rdr w' rb (dw q) f ∧ Chg w w' (fun b => b = rb) := by
  have H1 := hidd (number_ok h hB hl h6 hE (by omega) (by omega) ht)
  have H2 := hidd (isid_any n)
  have hd : decide (0 ≤ n ∧ n ≤ 2147483647) = true := by simp; omega
  rw [hd] at H2
  have H3 := hidd (must_ok rb)
  clear h hE ht hd
  go_enter Tryd.func35, Tryd.ntmps35
  go_wp2_with (first | (go_at_call 36; with_reducible refine (H1.out).mono ?_; rintro e w1 ⟨rfl, r1, k1⟩) | (go_at_call 30; with_reducible refine (H2.out _).mono ?_; rintro e w2 ⟨rfl, hw2⟩; rw [hw2]; clear hw2) | (go_at_call 51; with_reducible refine (H3.out _).mono ?_; rintro e w5 ⟨rfl, hw5⟩; rw [hw5]; clear hw5))
  go_ret
  exact ⟨rfl, r1, k1⟩
set_option maxRecDepth 20000 in
set_option maxHeartbeats 1000000 in
theorem lit_ok {w : World} {rb : Nat} {q b : List Int} {f : Bool} (h : Rdr w rb (32 :: q) f) (hB : Byt q) (hl : q.length ≤ 140737488351232) (h6 : 6 ≤ rb) (hE : Env w) (hb : UnqP q b) :
    Calls Tryd.prog 79 #[.pointer (some ⟨rb, 0, none⟩)] w fun e w' => ∃ ao cap, e = .returned (.slice ao b.length cap) ∧ Rdr w' rb (q.drop (lit b).length) f ∧ Own w' w.heap.size 5 1 (.slice ao b.length cap) b.length (byc b) ∧ Chg w w' (fun b => b = rb) := by
  have H1 := hidd (blank_ok h hB)
  have H2 := hidd (fun (w1 : World) (hE1 : Env w1) => unq_ok hB hl hb hE1.errs)
  have H5 := hidd (must_ok rb)
  have HE := hidd hE
  have hrb := h.cells.2.2.2
  have hle : (lit b).length ≤ q.length := hb.2.length_le
  have hsz : (strOfNums q).size = q.length := strOfNums_size q
  have x1 := str_ext q (lit b).length q.length
  rw [List.take_length] at x1
  clear h hE hb
  obtain ⟨n, en⟩ : ∃ n, n = q.length := ⟨_, rfl⟩
  rw [← en] at hsz x1 hle hl
  clear en
  obtain ⟨m, em⟩ : ∃ m, m = (lit b).length := ⟨_, rfl⟩
  rw [← em] at x1 hle H2 ⊢
  clear em
  generalize hs : strOfNums q = s at *
  have HS := hidd hs
  clear hs
  go_enter Tryd.func79, Tryd.ntmps79
  go_upto_region 2 with (go_at_call 52; with_reducible refine (H1.out).mono ?_; rintro e w1 ⟨rfl, r1, k1⟩)
  obtain ⟨c0, c1, fz, _⟩ := r1.cells
  rw [HS.out] at c0
  have HE1 := hidd (HE.out.chg k1 (fun b hb => by rw [hb]; exact h6))
  go_upto_region 3 with (go_at_call 10; with_reducible refine (H2.out _ HE1.out).mono ?_; rintro e w2 ⟨ao, cap, rfl, ho2, f2⟩)
  have r2 := r1.fresh f2
  obtain ⟨d0, d1, fz2, _⟩ := r2.cells
  rw [HS.out] at d0
  have e0 := fz2 0
  have HR := hidd (r2.rest (q.drop m))
  have HK := hidd (((k1.post f2)).trans (Chg.of_set w2 rb 0 (.string (strOfNums (q.drop m)))) (fun _ _ h => h))
  have HO : Hid (Own (w2.setCell ⟨rb, 0, none⟩ (.string (strOfNums (q.drop m)))) w.heap.size 5 1 (.slice ao b.length cap) b.length (byc b)) := by
    refine (ho2.chg (Chg.of_set w2 rb 0 _) (fun x hx e => ?_)).weaken k1.size
    have := (ho2.lt x hx).1
    have := k1.size
    omega
  clear r1 r2 k1 f2 ho2 c0 c1 fz fz2
  generalize strOfNums (q.drop m) = sd at *
  go_wp2_with (go_at_call 51; with_reducible refine (H5.out _).mono ?_; rintro e w5 ⟨rfl, hw5⟩; rw [hw5]; clear hw5)
  go_ret
  exact ⟨ao, cap, rfl, HR.out, HO.out, HK.out⟩
end Go.Proofs.YtemmghneohnigaaDoor
