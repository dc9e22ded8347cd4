import Derived.Test.YtknfddakpfkcfabDoorRcG
import Derived.Test.YtknfddakpfkcfabDoorDwMix
import Derived.Test.YtknfddakpfkcfabDoorDwAt
import Derived.Test.YtknfddakpfkcfabDoorDwProd
import Derived.Laws.BitsAllLaws
namespace Go.Proofs.YtknfddakpfkcfabDoor
open Go.RowKit
/-! A function of texts. -/
theorem Dw.Holds.low {w w' : World} (h : Dw.Holds w) (f : Below w.heap.size w w') : Dw.Holds w' := by
  obtain ⟨t, fr, e⟩ := h
  exact ⟨t, fr, by rw [f.block _ (Array.getElem?_eq_some_iff.1 e).1]; exact e⟩
def foS (h : Nat) (x : Int) : Nat := Dw.mix ((h + Dw.num x) % 18446744073709551616)
theorem foS_eq (h : Nat) (x : Int) : foS h x = Dw.mix ((h + Dw.num x) % 18446744073709551616) := rfl
theorem foS_lt (h : Nat) (x : Int) : foS h x < 18446744073709551616 := by rw [foS_eq]; exact Dw.mix_lt
def foL (L : List Int) : Nat := L.foldl foS 1
theorem foL_lt (L : List Int) : foL L < 18446744073709551616 := by
  unfold foL
  rcases List.eq_nil_or_concat L with e | ⟨M, x, e⟩
  · subst e
    rw [List.foldl_nil]
    omega
  · subst e
    rw [List.concat_eq_append, List.foldl_append, List.foldl_cons, List.foldl_nil]
    exact foS_lt _ _
theorem foldl_next {f : Nat → Int → Nat} {a : Nat} {L : List Int} {k : Nat} (hk : k < L.length) : (L.take (k + 1)).foldl f a = f ((L.take k).foldl f a) (L.getD k 0) := by
  rw [List.take_add_one, List.foldl_append, List.getElem?_eq_getElem hk, List.getD_eq_getElem?_getD, List.getElem?_eq_getElem hk]
  rfl
theorem foL_eq (L : List Int) : foL L = L.foldl foS 1 := rfl
theorem foL_next {L : List Int} {k : Nat} (hk : k < L.length) : foL (L.take (k + 1)) = foS (foL (L.take k)) (L.getD k 0) := by
  rw [foL_eq, foL_eq]
  exact foldl_next hk
/-- the token that is chosen behind a text -/
def chL (seed v : Nat) (L : List Int) : Nat := Dw.below (Dw.mix (foL L ^^^ seed)) v
theorem chL_eq (seed v : Nat) (L : List Int) : chL seed v L = Dw.below (Dw.mix (foL L ^^^ seed)) v := rfl
theorem chL_lt {seed v : Nat} (hv : 0 < v) (L : List Int) : chL seed v L < v := by rw [chL_eq]; exact Dw.below_lt Dw.mix_lt hv
theorem add_num (h : Nat) (x : Int) : IntKind.u64.wrap ((h : Int) + IntKind.u64.wrap x) = (((h + Dw.num x) % 18446744073709551616 : Nat) : Int) := by
  rw [Dw.nwrapi x, Dw.nadd, Dw.nwrapm]
set_option maxRecDepth 20000 in
set_option maxHeartbeats 1600000 in
theorem fold_any {w : World} {ao : Option Addr} {cap : Nat} {L : List Int} (h : RdA w ao 1 L.length cap (lF L)) (hd : Dw.Holds w) :
    Calls Tryd.prog 17 #[.slice ao L.length cap] w fun e w' => e = .returned (.int .u64 ((foL L : Nat) : Int)) ∧ Below w.heap.size w w' := by
  obtain ⟨n, hn⟩ : ∃ n, n = L.length := ⟨_, rfl⟩
  have hcap : n ≤ 9223372036854775807 := by have := h.le; have := h.top; unfold maxLen at this; omega
  rw [← hn] at h ⊢
  have HNL := hidd hn
  have HH := hidd h
  have HD := hidd hd
  clear h hd hn
  go_enter Tryd.func17, Tryd.ntmps17
  go_wp2
  go_loopw [3, 4] (fun vh vi wr => ∃ (k hh : Nat), k ≤ n ∧ vi = .int .i64 (k : Int) ∧ vh = .int .u64 (hh : Int) ∧ Hid (hh = foL (L.take k)) ∧ Hid (Below w.heap.size w wr)) (fun _ vi _ => n - (intOf vi).toNat)
  case atStart => exact ⟨0, 1, by omega, rfl, rfl, rfl, Below.refl _ _⟩
  case round =>
    obtain ⟨k, hh, hk, rfl, rfl, HE, HF⟩ := hrel
    by_cases hlt : k < n
    · obtain ⟨b1, o1, hu, hc⟩ := (HH.out.fresh HF.out).one (by omega)
      subst hu
      have ck : wr.cell? ⟨b1, o1 + k, none⟩ = some (.int .i64 (L.getD k 0)) := hc k hlt
      have g1 : (k : Int) < (n : Int) := by omega
      clear hc
      obtain ⟨y, HY⟩ : ∃ y, Hid (y = (hh + Dw.num (L.getD k 0)) % 18446744073709551616) := ⟨_, rfl⟩
      have HM : Hid (∀ w1, Below w.heap.size w w1 → Calls Tryd.prog 19 #[.int .u64 (y : Int)] w1 fun e w' => e = .returned (.int .u64 ((Dw.mix y : Nat) : Int)) ∧ Below w1.heap.size w1 w') := fun w1 h1 => (Dw.mix_any y w1 (HD.out.low h1) (by rw [HY.out]; exact Dw.mod_lt64 _)).mono fun _ _ ⟨a, b⟩ => ⟨a, b.below⟩
      have q := add_num hh (L.getD k 0)
      rw [← HY.out] at q
      have HN : Hid (Dw.mix y = foL (L.take (k + 1))) := by show _ = _; rw [foL_next (by rw [← HNL.out]; exact hlt), ← HE.out, HY.out, foS_eq]
      generalize L.getD k 0 = x at ck q
      go_wp2_with (go_at_call 19; with_reducible refine (HM.out _ HF.out).mono ?_; rintro e w2 ⟨rfl, hb2⟩; have HF2 := hidd (HF.out.trans (hb2.mono HF.out.size)); clear hb2)
      go_roundw
      case rel => exact ⟨k + 1, Dw.mix y, by omega, by go_num, rfl, HN, HF2⟩
      case measure => simp [intOf]; omega
    · obtain rfl : k = n := by omega
      have HE2 : Hid (hh = foL L) := by show _ = _; rw [HE.out, List.take_of_length_le (by rw [HNL.out]; exact Nat.le_refl _)]
      go_wp2
      go_ret
      exact ⟨ret_int (by rw [HE2.out]), HF.out⟩
set_option maxRecDepth 20000 in
set_option maxHeartbeats 1600000 in
theorem chooses_any {w : World} {ao : Option Addr} {cap seed v : Nat} {L : List Int} (h : RdA w ao 1 L.length cap (lF L)) (hd : Dw.Holds w) (hs : seed < 18446744073709551616) (h2 : 2 ≤ v) (h9 : v ≤ 9) :
    Calls Tryd.prog 7 #[.int .u64 (seed : Int), .int .i64 (v : Int), .slice ao L.length cap] w fun e w' => e = .returned (.int .i64 ((chL seed v L : Nat) : Int)) ∧ Below w.heap.size w w' := by
  have HFO := hidd (fold_any h hd)
  have HD := hidd hd
  obtain ⟨n, hn⟩ : ∃ n, n = L.length := ⟨_, rfl⟩
  rw [← hn] at HFO ⊢
  clear h hd hn
  obtain ⟨f, HFL⟩ : ∃ f, Hid (f = foL L) := ⟨_, rfl⟩
  rw [← HFL.out] at HFO
  have hf : f < 18446744073709551616 := by rw [HFL.out]; exact foL_lt L
  have q1 : bits .xor .u64 (f : Int) (seed : Int) = ((f ^^^ seed : Nat) : Int) := u64_xor_nat f seed hf hs
  have hx : f ^^^ seed < 18446744073709551616 := Nat.xor_lt_two_pow (n := 64) hf hs
  obtain ⟨x, HX⟩ : ∃ x, Hid (x = f ^^^ seed) := ⟨_, rfl⟩
  rw [← HX.out] at q1 hx
  obtain ⟨y, HY⟩ : ∃ y, Hid (y = Dw.mix x) := ⟨_, rfl⟩
  have hy : y < 18446744073709551616 := by rw [HY.out]; exact Dw.mix_lt
  obtain ⟨z, HZ⟩ : ∃ z, Hid (z = Dw.below y v) := ⟨_, rfl⟩
  have hz : z < v := by rw [HZ.out]; exact Dw.below_lt hy (by omega)
  have HM : Hid (∀ w1, Below w.heap.size w w1 → Calls Tryd.prog 19 #[.int .u64 (x : Int)] w1 fun e w' => e = .returned (.int .u64 (y : Int)) ∧ Below w1.heap.size w1 w') := fun w1 h1 => (Dw.mix_any x w1 (HD.out.low h1) hx).mono fun _ _ ⟨a, b⟩ => ⟨by rw [a, HY.out], b.below⟩
  have HB : Hid (∀ w1, Calls Tryd.prog 18 #[.int .u64 (y : Int), .int .u64 (v : Int)] w1 fun e w' => e = .returned (.int .u64 (z : Int)) ∧ Below w1.heap.size w1 w') := fun w1 => (Dw.below_any y v w1 hy (by omega)).mono fun _ _ ⟨a, b⟩ => ⟨by rw [a, HZ.out], b.below⟩
  have q2 : IntKind.u64.wrap (v : Int) = (v : Int) := by rw [IntKind.wrap_u64]; omega
  have q3 : IntKind.i64.wrap (z : Int) = (z : Int) := by rw [IntKind.wrap_i64]; omega
  have HC : Hid (z = chL seed v L) := by show _ = _; rw [HZ.out, HY.out, HX.out, HFL.out, chL_eq]
  go_enter Tryd.func7, Tryd.ntmps7
  go_wp2_with (first
    | (go_at_call 17; with_reducible refine HFO.out.mono ?_; rintro e w2 ⟨rfl, hb2⟩; have HF2 := hidd hb2; clear hb2)
    | (go_at_call 19; with_reducible refine (HM.out _ HF2.out).mono ?_; rintro e w3 ⟨rfl, hb3⟩; have HF3 := hidd (HF2.out.trans (hb3.mono HF2.out.size)); clear hb3)
    | (go_at_call 18; with_reducible refine (HB.out _).mono ?_; rintro e w4 ⟨rfl, hb4⟩; have HF4 := hidd (HF3.out.trans (hb4.mono HF3.out.size)); clear hb4))
  go_ret
  exact ⟨ret_int (by rw [← HC.out]), HF4.out⟩
set_option maxRecDepth 20000 in
set_option maxHeartbeats 1600000 in
theorem few_any (w : World) (s : Int) : Calls Tryd.prog 5 #[.int .i64 s] w fun e w' => (∃ v : Nat, 2 ≤ v ∧ v ≤ 9 ∧ e = .returned (.int .i64 (v : Int))) ∧ w' = w := by
  obtain ⟨k, HK⟩ : ∃ k, Hid (k = Int.tmod s 8) := ⟨_, rfl⟩
  have b1 : -8 < k ∧ k < 8 := by rw [HK.out]; have h1 := Int.tmod_lt_of_pos s (b := 8) (by omega); have h2 := Int.lt_tmod_of_pos s (b := 8) (by omega); omega
  have q1 : IntKind.i64.wrap (Int.tmod s 8) = k := by rw [← HK.out, IntKind.wrap_i64]; omega
  have q2 : Int.tmod s 8 = k := HK.out.symm
  have q3 : IntKind.i64.wrap (k + 8) = k + 8 := by rw [IntKind.wrap_i64]; omega
  have q4 : IntKind.i64.wrap (k + 2) = k + 2 := by rw [IntKind.wrap_i64]; omega
  have q5 : IntKind.i64.wrap (k + 8 + 2) = k + 8 + 2 := by rw [IntKind.wrap_i64]; omega
  have q6 : IntKind.i64.wrap k = k := by rw [IntKind.wrap_i64]; omega
  by_cases c : k < 0
  · have d : decide (k < 0) = true := decide_eq_true c
    go_enter Tryd.func5, Tryd.ntmps5
    go_wp2
    go_ret
    exact ⟨⟨(k + 8 + 2).toNat, by omega, by omega, ret_int (by rw [Int.toNat_of_nonneg (by omega)])⟩, rfl⟩
  · have d : decide (k < 0) = false := decide_eq_false c
    go_enter Tryd.func5, Tryd.ntmps5
    go_wp2
    go_ret
    exact ⟨⟨(k + 2).toNat, by omega, by omega, ret_int (by rw [Int.toNat_of_nonneg (by omega)])⟩, rfl⟩
end Go.Proofs.YtknfddakpfkcfabDoor
