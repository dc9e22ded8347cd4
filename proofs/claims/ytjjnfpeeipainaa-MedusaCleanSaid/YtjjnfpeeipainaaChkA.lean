import Derived.Test.YtjjnfpeeipainaaMatsRef2
import Derived.Test.YtjjnfpeeipainaaCfg2
namespace Go.Proofs.Ytjjnfpeeipainaa
open Go.RowKit
/-! Pieces of Check: the document's and the program's. -/
/-- W narrow numbers above -128 -/
def GnP (n : Nat) (f : Nat → Int) (W : Int) : Prop := (n : Int) = W ∧ ∀ i, i < n → -127 ≤ f i
/-- turns within Unit -/
def TnP (n : Nat) (C S : Nat → Int) (k : Int) : Prop := (n : Int) = k ∧ ∀ i, i < n → (-16384 ≤ C i ∧ C i ≤ 16384) ∧ (-16384 ≤ S i ∧ S i ≤ 16384)
/-- a matrix of that shape -/
def MtP (R C : Int) (n : Nat) (f : Nat → Int) (r c : Int) : Prop := (shp R C n = true ∧ ∀ i, i < n → -127 ≤ f i) ∧ R = r ∧ C = c
theorem some_low {n : Nat} {f : Nat → Int} (h : ¬ ∀ i, i < n → -127 ≤ f i) : ∃ i, i < n ∧ f i < -127 := by
  by_cases h2 : ∃ i, i < n ∧ f i < -127
  · exact h2
  · exact absurd (fun i hi => by
      by_cases h3 : f i < -127
      · exact absurd ⟨i, hi, h3⟩ h2
      · omega) h
set_option maxHeartbeats 1000000 in
theorem gains_ref {w : World} {ao : Option Addr} {n ca : Nat} {f : Nat → Int} (ha : RdA w ao 1 n ca (fun i => .int .i8 (f i))) (bf : ∀ i, i < n → -128 ≤ f i ∧ f i ≤ 127) (W : Int) (b : Bool) (hb : b = true ↔ GnP n f W) :
    Calls Try.prog 45 #[.slice ao n ca, .int .i64 W] w fun e w' => e = .returned (.bool b) ∧ Below w.heap.size w w' := by
  have hn : n ≤ 9223372036854775807 := by have := ha.le; have := ha.top; unfold maxLen at this; omega
  by_cases hW : (n : Int) = W
  · subst hW
    have hne : ((n : Int) != (n : Int)) = false := by simp
    have BF := hidd bf
    have HB := hidd hb
    clear bf hb
    go_enter Try.func45, Try.ntmps45
    go_wp2
    clear hne
    go_loopw [5] (fun i wr => ∃ k : Nat, k ≤ n ∧ i = .int .i64 k ∧ Hid (∀ j, j < k → -127 ≤ f j) ∧ Below w.heap.size w wr) (fun i _ => n - (intOf i).toNat)
    case atStart => exact ⟨0, by omega, rfl, fun j hj => absurd hj (by omega), Below.refl _ _⟩
    case round =>
      obtain ⟨k, hk, rfl, HK, hf⟩ := hrel
      by_cases hlt : k < n
      · obtain ⟨b1, o1, rfl, h1⟩ := (ha.fresh hf).one (by omega)
        have c1 := h1 k hlt
        have d1 := BF.out k hlt
        clear h1
        by_cases q : f k = -128
        · have e1 : (f k == -128) = true := by simp [q]
          have HE : Hid (b = false) := by
            show b = false
            cases hbb : b with
            | false => rfl
            | true => have := (HB.out.1 hbb).2 k hlt; omega
          clear q
          go_wp2
          go_ret
          exact ⟨ret_bool HE.out.symm, hf⟩
        · have e1 : (f k == -128) = false := by simp [q]
          have HK' : Hid (∀ j, j < k + 1 → -127 ≤ f j) := fun j hj => by
            by_cases e : j = k
            · subst e; omega
            · exact HK.out j (by omega)
          clear q
          go_wp2
          go_roundw
          case rel => exact ⟨k + 1, by omega, by go_num, HK', hf⟩
          case measure => simp [intOf]; omega
      · have HE : Hid (b = true) := HB.out.2 ⟨rfl, fun i hi => HK.out i (by omega)⟩
        go_wp2
        go_ret
        exact ⟨ret_bool HE.out.symm, hf⟩
  · have hne : ((n : Int) != W) = true := by simp [hW]
    have HE : Hid (b = false) := by
      show b = false
      cases hbb : b with
      | false => rfl
      | true => exact absurd (hb.1 hbb).1 hW
    clear hW hb bf
    go_enter Try.func45, Try.ntmps45
    go_wp2
    go_ret
    exact ⟨ret_bool HE.out.symm, Below.refl _ _⟩
set_option maxHeartbeats 1000000 in
theorem is_ref {w : World} {R C r c : Int} {ao : Option Addr} {n cap : Nat} {f : Nat → Int} (ha : RdA w ao 1 n cap (fun i => .int .i8 (f i))) (bf : ∀ i, i < n → -128 ≤ f i ∧ f i ≤ 127) (b : Bool) (hb : b = true ↔ MtP R C n f r c) :
    Calls Try.prog 44 #[.agg #[.int .i64 R, .int .i64 C, .slice ao n cap], .int .i64 r, .int .i64 c] w fun e w' => e = .returned (.bool b) ∧ Below w.heap.size w w' := by
  have hn : n ≤ 9223372036854775807 := by have := ha.le; have := ha.top; unfold maxLen at this; omega
  have hf0 := fresh_alloc w (.cells #[.int .i64 R, .int .i64 C, .slice ao n cap] 26)
  by_cases hg : shp R C n = true ∧ ∀ i, i < n → -127 ≤ f i
  · have hc := check_rdata (ha.fresh hf0) hg.1 bf true ⟨fun _ => hg.2, fun _ => rfl⟩
    by_cases hr : R = r
    · by_cases hcc : C = c
      · subst hr hcc
        have HE : Hid (b = true) := hb.2 ⟨hg, rfl, rfl⟩
        clear hb hg
        go_enter Try.func44, Try.ntmps44
        go_wp2_with fail
        refine hc.mono ?_
        rintro e w1 ⟨rfl, hf1⟩
        have c0 := fresh_cell hf1 (show (w.alloc (.cells #[.int .i64 R, .int .i64 C, .slice ao n cap] 26)).cell? ⟨w.heap.size, 0, none⟩ = some (.int .i64 R) by simp)
        have c1 := fresh_cell hf1 (show (w.alloc (.cells #[.int .i64 R, .int .i64 C, .slice ao n cap] 26)).cell? ⟨w.heap.size, 1, none⟩ = some (.int .i64 C) by simp)
        go_wp2
        go_ret
        exact ⟨ret_bool (by rw [HE.out]), fresh_trans hf0 hf1⟩
      · have e2 : (C == c) = false := by simp [hcc]
        have HE : Hid (b = false) := by
          show b = false
          cases hbb : b with
          | false => rfl
          | true => exact absurd (hb.1 hbb).2.2 hcc
        subst hr
        clear hb hg hcc
        go_enter Try.func44, Try.ntmps44
        go_wp2_with fail
        refine hc.mono ?_
        rintro e w1 ⟨rfl, hf1⟩
        have c0 := fresh_cell hf1 (show (w.alloc (.cells #[.int .i64 R, .int .i64 C, .slice ao n cap] 26)).cell? ⟨w.heap.size, 0, none⟩ = some (.int .i64 R) by simp)
        have c1 := fresh_cell hf1 (show (w.alloc (.cells #[.int .i64 R, .int .i64 C, .slice ao n cap] 26)).cell? ⟨w.heap.size, 1, none⟩ = some (.int .i64 C) by simp)
        go_wp2
        go_ret
        exact ⟨ret_bool (by rw [HE.out]), fresh_trans hf0 hf1⟩
    · have e2 : (R == r) = false := by simp [hr]
      have HE : Hid (b = false) := by
        show b = false
        cases hbb : b with
        | false => rfl
        | true => exact absurd (hb.1 hbb).2.1 hr
      clear hb hg hr
      go_enter Try.func44, Try.ntmps44
      go_wp2_with fail
      refine hc.mono ?_
      rintro e w1 ⟨rfl, hf1⟩
      have c0 := fresh_cell hf1 (show (w.alloc (.cells #[.int .i64 R, .int .i64 C, .slice ao n cap] 26)).cell? ⟨w.heap.size, 0, none⟩ = some (.int .i64 R) by simp)
      have c1 := fresh_cell hf1 (show (w.alloc (.cells #[.int .i64 R, .int .i64 C, .slice ao n cap] 26)).cell? ⟨w.heap.size, 1, none⟩ = some (.int .i64 C) by simp)
      go_wp2
      go_ret
      exact ⟨ret_bool (by rw [HE.out]), fresh_trans hf0 hf1⟩
  · have HE : Hid (b = false) := by
      show b = false
      cases hbb : b with
      | false => rfl
      | true => exact absurd (hb.1 hbb).1 hg
    have hc : Calls Try.prog 65 #[.agg #[.int .i64 R, .int .i64 C, .slice ao n cap]] (w.alloc (.cells #[.int .i64 R, .int .i64 C, .slice ao n cap] 26)) fun e w' => e = .returned (.int .i64 30) ∧ Below (w.alloc (.cells #[.int .i64 R, .int .i64 C, .slice ao n cap] 26)).heap.size (w.alloc (.cells #[.int .i64 R, .int .i64 C, .slice ao n cap] 26)) w' := by
      cases hs : shp R C n with
      | false => exact check_rshape hn hs
      | true => exact check_rdata (ha.fresh hf0) hs bf false ⟨fun h => by simp at h, fun h => absurd ⟨hs, h⟩ hg⟩
    clear hb hg
    go_enter Try.func44, Try.ntmps44
    go_wp2_with fail
    refine hc.mono ?_
    rintro e w1 ⟨rfl, hf1⟩
    go_wp2
    go_ret
    exact ⟨ret_bool (by rw [HE.out]), fresh_trans hf0 hf1⟩
end Go.Proofs.Ytjjnfpeeipainaa
