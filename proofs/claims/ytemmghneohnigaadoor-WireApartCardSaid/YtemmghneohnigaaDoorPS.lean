import Derived.Test.YtemmghneohnigaaDoorRK
import Derived.Lib.ParseIntBTie
import Derived.Lib.ParseIntBCases
namespace Go.Proofs.YtemmghneohnigaaDoor
open Go.RowKit
/-! The reader's number, where there is none. -/
theorem pint_gen {s : ByteArray} (hs : s.size ≤ 281474976710656) {w : World} (hE : Env w) :
    Calls Tryd.prog 53 #[.string s, .int .i64 10, .int .i64 64] w fun e w' => ((∃ v, e = .returned (.tuple #[.int .i64 v, .nilIface]) ∧ -9223372036854775808 ≤ v ∧ v ≤ 9223372036854775807) ∨ (∃ v tp p, e = .returned (.tuple #[.int .i64 v, .iface tp p]))) ∧ Below w.heap.size w w' := by
  cases hp : Lib.parseIntB 64 s.data.toList with
  | ok v =>
    have hb := Lib.parseIntB_bounds hp
    refine (Tryd.strconv_ParseInt_10_at64_ok s (by omega) v hp w).mono ?_
    rintro e w' ⟨rfl, rfl | ⟨t, rfl⟩⟩
    · exact ⟨.inl ⟨v, rfl, by omega, by omega⟩, Below.refl _ _⟩
    · exact ⟨.inl ⟨v, rfl, by omega, by omega⟩, below_bw _ _⟩
  | «syntax» =>
    obtain ⟨tp, p, hv⟩ := hE.syn
    refine (Tryd.strconv_ParseInt_10_at64_syntax_var s hs hp tp p w hv).mono ?_
    rintro e w' ⟨N, rfl, _, _, hf⟩
    exact ⟨.inr ⟨_, _, _, rfl⟩, hf⟩
  | range =>
    obtain ⟨tp, p, hv⟩ := hE.ran
    refine (Tryd.strconv_ParseInt_10_at64_range_var s hs hp tp p w hv).mono ?_
    rintro e w' ⟨N, rfl, _, _, hf⟩
    exact ⟨.inr ⟨_, _, _, rfl⟩, hf⟩
/-- behind the blank: what stands there is no numeral -/
theorem tw_byt {r : List Int} (h : Byt r) : Byt (tw r) := fun x hx => h x (by unfold tw at hx; exact List.IsPrefix.mem hx (List.takeWhile_prefix _))
theorem tw_len (r : List Int) : (tw r).length ≤ r.length := by unfold tw; exact (List.takeWhile_prefix _).length_le
set_option maxRecDepth 20000 in
set_option maxHeartbeats 1000000 in
theorem number_core {w : World} {rb : Nat} {r1 : List Int} {f1 : Bool} (hbl : Calls Tryd.prog 52 #[.pointer (some ⟨rb, 0, none⟩)] w fun e w' => e = .returned (.tuple #[]) ∧ Rdr w' rb r1 f1 ∧ Chg w w' (fun b => b = rb)) (hB : Byt r1) (hl : r1.length ≤ 281474976710656) (h6 : 6 ≤ rb) (hE : Env w) (hno : ∀ n, -9223372036854775808 ≤ n → n ≤ 9223372036854775807 → tw r1 ≠ numL n) :
    Calls Tryd.prog 36 #[.pointer (some ⟨rb, 0, none⟩)] w fun e w' => (∃ n, e = .returned (.int .i64 n)) ∧ Rdr w' rb [] true ∧ Chg w w' (fun b => b = rb) := by
  have H1 := hidd hbl
  have H2 := hidd (fun (w1 : World) (h1 : Rdr w1 rb r1 f1) => upto_any h1 hB hl)
  have hl2 := tw_len r1
  have H3 := hidd (fun (w1 : World) (hE1 : Env w1) => pint_gen (s := strOfNums (tw r1)) (by rw [strOfNums_size]; omega) hE1)
  have H4 := hidd (fun (w1 : World) (n : Int) (h0 : -9223372036854775808 ≤ n) (h1 : n ≤ 9223372036854775807) (hE1 : Env w1) => fint_any h0 h1 hE1)
  have H5 := hidd (fun (w1 : World) (r : List Int) (h : Rdr w1 rb r f1) => must_bad h)
  have HQ : Hid (∀ n, -9223372036854775808 ≤ n → n ≤ 9223372036854775807 → ((strOfNums (numL n)).toList == (strOfNums (tw r1)).toList) = false) := fun n h0 h1 => by
    rw [str_eq (a := numL n) (numsU_byt _) (tw_byt hB)]
    exact decide_eq_false (fun e => hno n h0 h1 e.symm)
  have HE := hidd hE
  clear hbl hE hno hB hl2
  generalize strOfNums (tw r1) = s at *
  go_enter Tryd.func36, Tryd.ntmps36
  go_upto_region 2 with (go_at_call 52; with_reducible refine (H1.out).mono ?_; rintro e w1 ⟨rfl, r1', k1⟩)
  go_upto_region 3 with (go_at_call 34; with_reducible refine (H2.out _ r1').mono ?_; rintro e w2 ⟨rfl, r2, k2⟩)
  have K2 := hidd (k1.trans k2 (fun _ _ h => h))
  have HE2 := hidd (HE.out.chg K2.out (fun b hb => by rw [hb]; exact h6))
  have R2 := hidd r2
  clear r1' r2 k1 k2
  have HC := hidd (H3.out _ HE2.out)
  go_upto_region 4 with (go_at_call 53; with_reducible refine (HC.out).mono ?_; rintro e w3 ⟨⟨v, rfl, hv0, hv1⟩ | ⟨v, tp, p, rfl⟩, f3⟩)
  · have K3 := hidd (K2.out.post f3)
    have HE3 := hidd (HE2.out.fresh f3)
    have R3 := hidd (R2.out.fresh f3)
    have he := HQ.out v hv0 hv1
    have HC4 := hidd (H4.out w3 v hv0 hv1 HE3.out)
    generalize strOfNums (numL v) = sv at *
    clear f3 HC H3
    go_wp2_with (first | (go_at_call 54; with_reducible refine (HC4.out).mono ?_; rintro e w4 ⟨rfl, f4⟩; have R4 := hidd (R3.out.fresh f4)) | (go_at_call 51; with_reducible refine (H5.out _ _ R4.out).mono ?_; rintro e w5 ⟨rfl, r5, k5⟩))
    go_ret
    exact ⟨⟨v, rfl⟩, r5, (K3.out.post f4).trans k5 (fun _ _ h => h)⟩
  · have K3 := hidd (K2.out.post f3)
    have R3 := hidd (R2.out.fresh f3)
    clear f3 HC H3
    go_wp2_with (go_at_call 51; with_reducible refine (H5.out _ _ R3.out).mono ?_; rintro e w5 ⟨rfl, r5, k5⟩)
    go_ret
    exact ⟨⟨v, rfl⟩, r5, K3.out.trans k5 (fun _ _ h => h)⟩
theorem num_ne {n : Int} : numL n ≠ [] := fun e => by
  unfold numL numsU Lib.itoa at e
  have e2 := List.map_eq_nil_iff.1 e
  split at e2
  · exact absurd e2 (by simp)
  · have := congrArg List.length e2
    rw [Lib.decDigits_length] at this
    have h1 : Lib.decDigits n.toNat = [] := e2
    rw [Lib.decDigits] at h1
    split at h1
    · simp at h1
    · simp at h1
/-- is there a number ahead, behind a blank? -/
def NumAt (r : List Int) (n : Int) : Prop := -9223372036854775808 ≤ n ∧ n ≤ 9223372036854775807 ∧ ∃ q, r = 32 :: q ∧ tw q = numL n
theorem number_bad {w : World} {rb : Nat} {r : List Int} {f : Bool} (h : Rdr w rb r f) (hB : Byt r) (hl : r.length ≤ 281474976710656) (h6 : 6 ≤ rb) (hE : Env w) (hno : ¬ ∃ n, NumAt r n) :
    Calls Tryd.prog 36 #[.pointer (some ⟨rb, 0, none⟩)] w fun e w' => (∃ n, e = .returned (.int .i64 n)) ∧ Rdr w' rb [] true ∧ Chg w w' (fun b => b = rb) := by
  by_cases hp : [32] <+: r
  · obtain ⟨q, rfl⟩ := hp
    have hBq : Byt q := hB.right
    refine number_core (r1 := q) (blank_ok (r := q) h hBq) hBq (by simp at hl; omega) h6 hE (fun n h0 h1 e => hno ⟨n, h0, h1, q, rfl, e⟩)
  · exact number_core (blank_bad h hB hp) byt_nil (by simp) h6 hE (fun n _ _ e => num_ne e.symm)
end Go.Proofs.YtemmghneohnigaaDoor
namespace Go.Proofs.YtemmghneohnigaaDoor
open Go.RowKit
/-! The reader's id and literal, where there is none. -/
set_option maxRecDepth 20000 in
set_option maxHeartbeats 1000000 in
theorem litr_core {w : World} {rb : Nat} {r1 : List Int} {f1 : Bool} (hbl : Calls Tryd.prog 52 #[.pointer (some ⟨rb, 0, none⟩)] w fun e w' => e = .returned (.tuple #[]) ∧ Rdr w' rb r1 f1 ∧ Chg w w' (fun b => b = rb)) (hB : Byt r1) (hl : r1.length ≤ 140737488351232) (h6 : 6 ≤ rb) (hE : Env w) (hno : ¬ ∃ b, UnqP r1 b) :
    Calls Tryd.prog 79 #[.pointer (some ⟨rb, 0, none⟩)] w fun e w' => e = .returned (.slice none 0 0) ∧ Rdr w' rb [] true ∧ Chg w w' (fun b => b = rb) := by
  have H1 := hidd hbl
  have H2 := hidd (fun (w1 : World) (hE1 : Env w1) => unq_bad hB hl hno hE1.errs)
  have H5 := hidd (fun (w1 : World) (r : List Int) (h : Rdr w1 rb r f1) => must_bad h)
  have HE := hidd hE
  have hsz : (strOfNums r1).size = r1.length := strOfNums_size r1
  have x1 := str_ext r1 0 r1.length
  rw [List.take_length, List.drop_zero] at x1
  obtain ⟨n, en⟩ : ∃ n, n = r1.length := ⟨_, rfl⟩
  rw [← en] at hsz x1 hl
  clear en hbl hE hno hB
  generalize hs : strOfNums r1 = s at *
  have HS := hidd hs
  clear hs
  go_enter Tryd.func79, Tryd.ntmps79
  go_upto_region 2 with (go_at_call 52; with_reducible refine (H1.out).mono ?_; rintro e w1 ⟨rfl, r1', k1⟩)
  obtain ⟨c0, c1, fz, _⟩ := r1'.cells
  rw [HS.out] at c0
  have HE1 := hidd (HE.out.chg k1 (fun b hb => by rw [hb]; exact h6))
  go_upto_region 3 with (go_at_call 10; with_reducible refine (H2.out _ HE1.out).mono ?_; rintro e w2 ⟨rfl, f2⟩)
  have r2 := r1'.fresh f2
  obtain ⟨d0, d1, fz2, _⟩ := r2.cells
  rw [HS.out] at d0
  have e0 := fz2 0
  have hr3 := r2.rest r1
  rw [HS.out] at hr3
  have HR := hidd hr3
  have HK := hidd (((k1.post f2)).trans (Chg.of_set w2 rb 0 (.string s)) (fun _ _ h => h))
  clear r1' r2 k1 f2 c0 c1 fz fz2 hr3
  go_wp2_with (go_at_call 51; with_reducible refine (H5.out _ _ HR.out).mono ?_; rintro e w5 ⟨rfl, r5, k5⟩)
  go_ret
  exact ⟨rfl, r5, HK.out.trans k5 (fun _ _ h => h)⟩
/-- is there a literal ahead, behind a blank? -/
def LitAt (r b : List Int) : Prop := ∃ q, r = 32 :: q ∧ UnqP q b
theorem nil_unq : ¬ ∃ b, UnqP [] b := by
  rintro ⟨b, _, h⟩
  have := h.length_le
  rw [lit_len] at this
  simp at this
theorem litr_bad {w : World} {rb : Nat} {r : List Int} {f : Bool} (h : Rdr w rb r f) (hB : Byt r) (hl : r.length ≤ 140737488351232) (h6 : 6 ≤ rb) (hE : Env w) (hno : ¬ ∃ b, LitAt r b) :
    Calls Tryd.prog 79 #[.pointer (some ⟨rb, 0, none⟩)] w fun e w' => e = .returned (.slice none 0 0) ∧ Rdr w' rb [] true ∧ Chg w w' (fun b => b = rb) := by
  by_cases hp : [32] <+: r
  · obtain ⟨q, rfl⟩ := hp
    have hBq : Byt q := hB.right
    exact litr_core (r1 := q) (blank_ok (r := q) h hBq) hBq (by simp at hl; omega) h6 hE (fun ⟨b, hb⟩ => hno ⟨b, q, rfl, hb⟩)
  · exact litr_core (blank_bad h hB hp) byt_nil (by simp) h6 hE nil_unq
set_option maxRecDepth 20000 in
theorem id_bad {w : World} {rb : Nat} {r : List Int} {f : Bool} (h : Rdr w rb r f) (hB : Byt r) (hl : r.length ≤ 281474976710656) (h6 : 6 ≤ rb) (hE : Env w) (hno : ¬ ∃ n, NumAt r n ∧ 0 ≤ n ∧ n ≤ 2147483647) :
    Calls Tryd.prog 35 #[.pointer (some ⟨rb, 0, none⟩)] w fun e w' => (∃ n, e = .returned (.int .i64 n)) ∧ Rdr w' rb [] true ∧ Chg w w' (fun b => b = rb) := by
  have HI := hidd isid_any
  have HM := hidd (fun (w1 : World) (r : List Int) (f : Bool) (h : Rdr w1 rb r f) => must_bad h)
  have HO := hidd (must_ok rb)
  by_cases hn : ∃ n, NumAt r n
  · obtain ⟨n, h0, h1, q, rfl, ht⟩ := hn
    have hd : decide (0 ≤ n ∧ n ≤ 2147483647) = false := decide_eq_false (fun e => hno ⟨n, ⟨h0, h1, q, rfl, ht⟩, e⟩)
    have H1 := hidd (number_ok h (fun x hx => hB x (by simp [hx])) (by simp at hl; omega) h6 hE h0 h1 ht)
    have H2 := hidd (HI.out n)
    rw [hd] at H2
    clear h hE ht hd HI hno
    go_enter Tryd.func35, Tryd.ntmps35
    go_wp2_with (first | (go_at_call 36; with_reducible refine (H1.out).mono ?_; rintro e w1 ⟨rfl, r1, k1⟩) | (go_at_call 30; with_reducible refine (H2.out _).mono ?_; rintro e w2 ⟨rfl, hw2⟩; rw [hw2]; clear hw2) | (go_at_call 51; with_reducible refine (HM.out _ _ _ r1).mono ?_; rintro e w5 ⟨rfl, r5, k5⟩))
    go_ret
    exact ⟨⟨n, rfl⟩, r5, k1.trans k5 (fun _ _ h => h)⟩
  · have H1 := hidd (number_bad h hB hl h6 hE hn)
    clear h hE hno hn
    go_enter Tryd.func35, Tryd.ntmps35
    go_upto_region 2 with (go_at_call 36; with_reducible refine (H1.out).mono ?_; rintro e w1 ⟨⟨n, rfl⟩, r1, k1⟩)
    have H2 := hidd (HI.out n)
    have R1 := hidd r1
    have K1 := hidd k1
    clear r1 k1 HI
    cases hq : decide (0 ≤ n ∧ n ≤ 2147483647)
    · rw [hq] at H2
      clear hq
      go_wp2_with (first | (go_at_call 30; with_reducible refine (H2.out _).mono ?_; rintro e w2 ⟨rfl, hw2⟩; rw [hw2]; clear hw2) | (go_at_call 51; with_reducible refine (HM.out _ _ _ R1.out).mono ?_; rintro e w5 ⟨rfl, r5, k5⟩))
      go_ret
      exact ⟨⟨n, rfl⟩, r5, K1.out.trans k5 (fun _ _ h => h)⟩
    · rw [hq] at H2
      clear hq
      go_wp2_with (first | (go_at_call 30; with_reducible refine (H2.out _).mono ?_; rintro e w2 ⟨rfl, hw2⟩; rw [hw2]; clear hw2) | (go_at_call 51; with_reducible refine (HO.out _).mono ?_; rintro e w5 ⟨rfl, hw5⟩; rw [hw5]; clear hw5))
      go_ret
      exact ⟨⟨n, rfl⟩, R1.out, K1.out⟩
end Go.Proofs.YtemmghneohnigaaDoor
namespace Go.Proofs.YtemmghneohnigaaDoor
open Go.RowKit
/-! The reader's seed. -/
theorem puint_ok {n : Nat} (h0 : n < 18446744073709551616) (w : World) :
    Calls Tryd.prog 45 #[.string (strOfNums (decL n)), .int .i64 10, .int .i64 64] w fun e w' => e = .returned (.tuple #[.int .u64 (n : Int), .nilIface]) ∧ Below w.heap.size w w' := by
  have hz : (strOfNums (decL n)).size ≤ 9223372036854775806 := by
    rw [strOfNums_size]
    have := decL_len n h0
    omega
  refine (Tryd.strconv_ParseUint_10_at64_ok (strOfNums (decL n)) hz n (by unfold decL; rw [numsU_data]; exact uintB_dec (by omega)) w).mono ?_
  rintro e w' ⟨rfl, rfl | rfl⟩
  · exact ⟨rfl, Below.refl _ _⟩
  · exact ⟨rfl, below_bw _ _⟩
theorem puint_gen {s : ByteArray} (hs : s.size ≤ 281474976710656) {w : World} (hE : Env w) :
    Calls Tryd.prog 45 #[.string s, .int .i64 10, .int .i64 64] w fun e w' => ((∃ v : Nat, e = .returned (.tuple #[.int .u64 (v : Int), .nilIface]) ∧ v < 18446744073709551616) ∨ (∃ (v : Nat) (tp : TypeId) (p : Value), e = .returned (.tuple #[.int .u64 (v : Int), .iface tp p]) ∧ v < 18446744073709551616)) ∧ Below w.heap.size w w' := by
  cases hp : Lib.parseUintB 64 s.data.toList with
  | ok v =>
    have hb := Lib.parseUintB_le hp
    refine (Tryd.strconv_ParseUint_10_at64_ok s (by omega) v hp w).mono ?_
    rintro e w' ⟨rfl, rfl | rfl⟩
    · exact ⟨.inl ⟨v, rfl, by omega⟩, Below.refl _ _⟩
    · exact ⟨.inl ⟨v, rfl, by omega⟩, below_bw _ _⟩
  | «syntax» =>
    obtain ⟨tp, p, hv⟩ := hE.syn
    refine (Tryd.strconv_ParseUint_10_at64_syntax_var s hs hp tp p w hv).mono ?_
    rintro e w' ⟨N, rfl, _, _, hf⟩
    exact ⟨.inr ⟨0, _, _, rfl, by omega⟩, hf⟩
  | range =>
    obtain ⟨tp, p, hv⟩ := hE.ran
    refine (Tryd.strconv_ParseUint_10_at64_range_var s hs hp tp p w hv).mono ?_
    rintro e w' ⟨N, rfl, _, _, hf⟩
    exact ⟨.inr ⟨18446744073709551615, _, _, rfl, by omega⟩, hf⟩
set_option maxRecDepth 20000 in
set_option maxHeartbeats 1000000 in
theorem seed_ok {w : World} {rb : Nat} {q : List Int} {f : Bool} {n : Nat} (h : Rdr w rb (32 :: q) f) (hB : Byt q) (hl : q.length ≤ 281474976710656) (h6 : 6 ≤ rb) (hE : Env w) (h0 : n < 18446744073709551616) (ht : tw q = decL n) :
    Calls Tryd.prog 78 #[.pointer (some ⟨rb, 0, none⟩)] w fun e w' => e = .returned (.int .u64 (n : Int)) ∧ Rdr w' rb (dw q) f ∧ Chg w w' (fun b => b = rb) := by
  have H1 := hidd (blank_ok h hB)
  have H2 := hidd (fun (w1 : World) (h1 : Rdr w1 rb q f) => upto_any h1 hB hl)
  rw [ht] at H2
  have H3 := hidd (fun w => puint_ok h0 w)
  have H4 := hidd (fun (w1 : World) (hE1 : Env w1) => fuint_any n h0 hE1)
  have H5 := hidd (must_ok rb)
  have HE := hidd hE
  have he : ((strOfNums (decL n)).toList == (strOfNums (decL n)).toList) = true := by simp
  clear h hE ht
  generalize strOfNums (decL n) = s at *
  go_enter Tryd.func78, Tryd.ntmps78
  go_upto_region 2 with (go_at_call 52; with_reducible refine (H1.out).mono ?_; rintro e w1 ⟨rfl, r1, k1⟩)
  go_upto_region 3 with (go_at_call 34; with_reducible refine (H2.out _ r1).mono ?_; rintro e w2 ⟨rfl, r2, k2⟩)
  go_upto_region 4 with (go_at_call 45; with_reducible refine (H3.out _).mono ?_; rintro e w3 ⟨rfl, f3⟩)
  have k3 := (k1.trans k2 (fun _ _ h => h)).post f3
  have HE3 := hidd (HE.out.chg k3 (fun b hb => by rw [hb]; exact h6))
  have r3 := r2.fresh f3
  have R3 := hidd r3
  have K3 := hidd k3
  clear r1 r2 r3 k1 k2 k3 f3
  go_wp2_with (first | (go_at_call 89; with_reducible refine (H4.out _ HE3.out).mono ?_; rintro e w4 ⟨rfl, f4⟩) | (go_at_call 51; with_reducible refine (H5.out _).mono ?_; rintro e w5 ⟨rfl, hw5⟩; rw [hw5]; clear hw5))
  go_ret
  exact ⟨rfl, R3.out.fresh f4, K3.out.post f4⟩
set_option maxRecDepth 20000 in
set_option maxHeartbeats 1000000 in
theorem seed_core {w : World} {rb : Nat} {r1 : List Int} {f1 : Bool} (hbl : Calls Tryd.prog 52 #[.pointer (some ⟨rb, 0, none⟩)] w fun e w' => e = .returned (.tuple #[]) ∧ Rdr w' rb r1 f1 ∧ Chg w w' (fun b => b = rb)) (hB : Byt r1) (hl : r1.length ≤ 281474976710656) (h6 : 6 ≤ rb) (hE : Env w) (hno : ∀ n : Nat, n < 18446744073709551616 → tw r1 ≠ decL n) :
    Calls Tryd.prog 78 #[.pointer (some ⟨rb, 0, none⟩)] w fun e w' => (∃ n : Nat, n < 18446744073709551616 ∧ e = .returned (.int .u64 (n : Int))) ∧ Rdr w' rb [] true ∧ Chg w w' (fun b => b = rb) := by
  have H1 := hidd hbl
  have H2 := hidd (fun (w1 : World) (h1 : Rdr w1 rb r1 f1) => upto_any h1 hB hl)
  have hl2 := tw_len r1
  have H3 := hidd (fun (w1 : World) (hE1 : Env w1) => puint_gen (s := strOfNums (tw r1)) (by rw [strOfNums_size]; omega) hE1)
  have H4 := hidd (fun (w1 : World) (n : Nat) (h0 : n < 18446744073709551616) (hE1 : Env w1) => fuint_any n h0 hE1)
  have H5 := hidd (fun (w1 : World) (r : List Int) (h : Rdr w1 rb r f1) => must_bad h)
  have HQ : Hid (∀ n : Nat, n < 18446744073709551616 → ((strOfNums (decL n)).toList == (strOfNums (tw r1)).toList) = false) := fun n h0 => by
    rw [str_eq (a := decL n) (numsU_byt _) (tw_byt hB)]
    exact decide_eq_false (fun e => hno n h0 e.symm)
  have HE := hidd hE
  clear hbl hE hno hB hl2
  generalize strOfNums (tw r1) = s at *
  go_enter Tryd.func78, Tryd.ntmps78
  go_upto_region 2 with (go_at_call 52; with_reducible refine (H1.out).mono ?_; rintro e w1 ⟨rfl, r1', k1⟩)
  go_upto_region 3 with (go_at_call 34; with_reducible refine (H2.out _ r1').mono ?_; rintro e w2 ⟨rfl, r2, k2⟩)
  have K2 := hidd (k1.trans k2 (fun _ _ h => h))
  have HE2 := hidd (HE.out.chg K2.out (fun b hb => by rw [hb]; exact h6))
  have R2 := hidd r2
  clear r1' r2 k1 k2
  have HC := hidd (H3.out _ HE2.out)
  go_upto_region 4 with (go_at_call 45; with_reducible refine (HC.out).mono ?_; rintro e w3 ⟨⟨v, rfl, hv0⟩ | ⟨v, tp, p, rfl, hv0⟩, f3⟩)
  · have K3 := hidd (K2.out.post f3)
    have HE3 := hidd (HE2.out.fresh f3)
    have R3 := hidd (R2.out.fresh f3)
    have he := HQ.out v hv0
    have HC4 := hidd (H4.out w3 v hv0 HE3.out)
    generalize strOfNums (decL v) = sv at *
    clear f3 HC H3
    go_wp2_with (first | (go_at_call 89; with_reducible refine (HC4.out).mono ?_; rintro e w4 ⟨rfl, f4⟩; have R4 := hidd (R3.out.fresh f4)) | (go_at_call 51; with_reducible refine (H5.out _ _ R4.out).mono ?_; rintro e w5 ⟨rfl, r5, k5⟩))
    go_ret
    exact ⟨⟨v, hv0, rfl⟩, r5, (K3.out.post f4).trans k5 (fun _ _ h => h)⟩
  · have K3 := hidd (K2.out.post f3)
    have R3 := hidd (R2.out.fresh f3)
    clear f3 HC H3
    go_wp2_with (go_at_call 51; with_reducible refine (H5.out _ _ R3.out).mono ?_; rintro e w5 ⟨rfl, r5, k5⟩)
    go_ret
    exact ⟨⟨v, hv0, rfl⟩, r5, K3.out.trans k5 (fun _ _ h => h)⟩
theorem decL_ne {n : Nat} : decL n ≠ [] := fun e => num_ne (n := (n : Int)) (by rw [numL_pos]; exact e)
/-- is there a seed ahead, behind a blank? -/
def SeedAt (r : List Int) (n : Nat) : Prop := n < 18446744073709551616 ∧ ∃ q, r = 32 :: q ∧ tw q = decL n
theorem seed_bad {w : World} {rb : Nat} {r : List Int} {f : Bool} (h : Rdr w rb r f) (hB : Byt r) (hl : r.length ≤ 281474976710656) (h6 : 6 ≤ rb) (hE : Env w) (hno : ¬ ∃ n, SeedAt r n) :
    Calls Tryd.prog 78 #[.pointer (some ⟨rb, 0, none⟩)] w fun e w' => (∃ n : Nat, n < 18446744073709551616 ∧ e = .returned (.int .u64 (n : Int))) ∧ Rdr w' rb [] true ∧ Chg w w' (fun b => b = rb) := by
  by_cases hp : [32] <+: r
  · obtain ⟨q, rfl⟩ := hp
    have hBq : Byt q := hB.right
    exact seed_core (r1 := q) (blank_ok (r := q) h hBq) hBq (by simp at hl; omega) h6 hE (fun n h0 e => hno ⟨n, h0, q, rfl, e⟩)
  · exact seed_core (blank_bad h hB hp) byt_nil (by simp) h6 hE (fun n _ e => decL_ne e.symm)
end Go.Proofs.YtemmghneohnigaaDoor
