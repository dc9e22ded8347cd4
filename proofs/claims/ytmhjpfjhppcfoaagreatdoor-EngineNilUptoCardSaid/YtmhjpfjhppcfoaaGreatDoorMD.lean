import Derived.Test.YtmhjpfjhppcfoaaGreatDoorMB
import Derived.Test.YtmhjpfjhppcfoaaGreatDoorMC
import Derived.Test.YtmhjpfjhppcfoaaGreatDoorRows
import Derived.Test.YtmhjpfjhppcfoaaGreatDoorMA
namespace Go.Proofs.YtmhjpfjhppcfoaaGreatDoor
open Go.RowKit
/-! Pieces of Check: the document's and the program's. -/
/-- W narrow numbers above -128 -/
def GnP (n : Nat) (f : Nat → Int) (W : Int) : Prop := (n : Int) = W ∧ ∀ i, i < n → -127 ≤ f i
/-- turns within Unit -/
def TnP (n : Nat) (C S : Nat → Int) (k : Int) : Prop := (n : Int) = k ∧ ∀ i, i < n → (-16384 ≤ C i ∧ C i ≤ 16384) ∧ (-16384 ≤ S i ∧ S i ≤ 16384)
/-- a matrix of that shape -/
def MtP (R C : Int) (n : Nat) (f : Nat → Int) (r c : Int) : Prop := (shp R C n = true ∧ ∀ i, i < n → -127 ≤ f i) ∧ R = r ∧ C = c
theorem some_low {n : Nat} {f : Nat → Int} (h : ¬ ∀ i, i < n → -127 ≤ f i) : ∃ i, i < n ∧ f i < -127 := by
  by_cases h2 : ∃ i, i < n ∧ f i < -127
  · exact h2
  · exact absurd (fun i hi => by
      by_cases h3 : f i < -127
      · exact absurd ⟨i, hi, h3⟩ h2
      · omega) h
set_option maxHeartbeats 1000000 in
theorem gains_ref {w : World} {ao : Option Addr} {n ca : Nat} {f : Nat → Int} (ha : RdA w ao 1 n ca (fun i => .int .i8 (f i))) (bf : ∀ i, i < n → -128 ≤ f i ∧ f i ≤ 127) (W : Int) (b : Bool) (hb : b = true ↔ GnP n f W) :
    Calls Tryz.prog 104 #[.slice ao n ca, .int .i64 W] w fun e w' => e = .returned (.bool b) ∧ Below w.heap.size w w' := by
  have hn : n ≤ 9223372036854775807 := by have := ha.le; have := ha.top; unfold maxLen at this; omega
  by_cases hW : (n : Int) = W
  · subst hW
    have hne : ((n : Int) != (n : Int)) = false := by simp
    have BF := hidd bf
    have HB := hidd hb
    clear bf hb
    go_enter Tryz.func104, Tryz.ntmps104
    go_wp2
    clear hne
    go_loopw [5] (fun i wr => ∃ k : Nat, k ≤ n ∧ i = .int .i64 k ∧ Hid (∀ j, j < k → -127 ≤ f j) ∧ Below w.heap.size w wr) (fun i _ => n - (intOf i).toNat)
    case atStart => exact ⟨0, by omega, rfl, fun j hj => absurd hj (by omega), Below.refl _ _⟩
    case round =>
      obtain ⟨k, hk, rfl, HK, hf⟩ := hrel
      by_cases hlt : k < n
      · obtain ⟨b1, o1, rfl, h1⟩ := (ha.fresh hf).one (by omega)
        have c1 := h1 k hlt
        have d1 := BF.out k hlt
        clear h1
        by_cases q : f k = -128
        · have e1 : (f k == -128) = true := by simp [q]
          have HE : Hid (b = false) := by
            show b = false
            cases hbb : b with
            | false => rfl
            | true => have := (HB.out.1 hbb).2 k hlt; omega
          clear q
          go_wp2
          go_ret
          exact ⟨ret_bool HE.out.symm, hf⟩
        · have e1 : (f k == -128) = false := by simp [q]
          have HK' : Hid (∀ j, j < k + 1 → -127 ≤ f j) := fun j hj => by
            by_cases e : j = k
            · subst e; omega
            · exact HK.out j (by omega)
          clear q
          go_wp2
          go_roundw
          case rel => exact ⟨k + 1, by omega, by go_num, HK', hf⟩
          case measure => simp [intOf]; omega
      · have HE : Hid (b = true) := HB.out.2 ⟨rfl, fun i hi => HK.out i (by omega)⟩
        go_wp2
        go_ret
        exact ⟨ret_bool HE.out.symm, hf⟩
  · have hne : ((n : Int) != W) = true := by simp [hW]
    have HE : Hid (b = false) := by
      show b = false
      cases hbb : b with
      | false => rfl
      | true => exact absurd (hb.1 hbb).1 hW
    clear hW hb bf
    go_enter Tryz.func104, Tryz.ntmps104
    go_wp2
    go_ret
    exact ⟨ret_bool HE.out.symm, Below.refl _ _⟩
set_option maxHeartbeats 1000000 in
theorem is_ref {w : World} {R C r c : Int} {ao : Option Addr} {n cap : Nat} {f : Nat → Int} (ha : RdA w ao 1 n cap (fun i => .int .i8 (f i))) (bf : ∀ i, i < n → -128 ≤ f i ∧ f i ≤ 127) (b : Bool) (hb : b = true ↔ MtP R C n f r c) :
    Calls Tryz.prog 103 #[.agg #[.int .i64 R, .int .i64 C, .slice ao n cap], .int .i64 r, .int .i64 c] w fun e w' => e = .returned (.bool b) ∧ Below w.heap.size w w' := by
  have hn : n ≤ 9223372036854775807 := by have := ha.le; have := ha.top; unfold maxLen at this; omega
  have hf0 := fresh_alloc w (.cells #[.int .i64 R, .int .i64 C, .slice ao n cap] 26)
  by_cases hg : shp R C n = true ∧ ∀ i, i < n → -127 ≤ f i
  · have hc := check_rdata (ha.fresh hf0) hg.1 bf true ⟨fun _ => hg.2, fun _ => rfl⟩
    by_cases hr : R = r
    · by_cases hcc : C = c
      · subst hr hcc
        have HE : Hid (b = true) := hb.2 ⟨hg, rfl, rfl⟩
        clear hb hg
        go_enter Tryz.func103, Tryz.ntmps103
        go_wp2_with fail
        refine hc.mono ?_
        rintro e w1 ⟨rfl, hf1⟩
        have c0 := fresh_cell hf1 (show (w.alloc (.cells #[.int .i64 R, .int .i64 C, .slice ao n cap] 26)).cell? ⟨w.heap.size, 0, none⟩ = some (.int .i64 R) by simp)
        have c1 := fresh_cell hf1 (show (w.alloc (.cells #[.int .i64 R, .int .i64 C, .slice ao n cap] 26)).cell? ⟨w.heap.size, 1, none⟩ = some (.int .i64 C) by simp)
        go_wp2
        go_ret
        exact ⟨ret_bool (by rw [HE.out]), fresh_trans hf0 hf1⟩
      · have e2 : (C == c) = false := by simp [hcc]
        have HE : Hid (b = false) := by
          show b = false
          cases hbb : b with
          | false => rfl
          | true => exact absurd (hb.1 hbb).2.2 hcc
        subst hr
        clear hb hg hcc
        go_enter Tryz.func103, Tryz.ntmps103
        go_wp2_with fail
        refine hc.mono ?_
        rintro e w1 ⟨rfl, hf1⟩
        have c0 := fresh_cell hf1 (show (w.alloc (.cells #[.int .i64 R, .int .i64 C, .slice ao n cap] 26)).cell? ⟨w.heap.size, 0, none⟩ = some (.int .i64 R) by simp)
        have c1 := fresh_cell hf1 (show (w.alloc (.cells #[.int .i64 R, .int .i64 C, .slice ao n cap] 26)).cell? ⟨w.heap.size, 1, none⟩ = some (.int .i64 C) by simp)
        go_wp2
        go_ret
        exact ⟨ret_bool (by rw [HE.out]), fresh_trans hf0 hf1⟩
    · have e2 : (R == r) = false := by simp [hr]
      have HE : Hid (b = false) := by
        show b = false
        cases hbb : b with
        | false => rfl
        | true => exact absurd (hb.1 hbb).2.1 hr
      clear hb hg hr
      go_enter Tryz.func103, Tryz.ntmps103
      go_wp2_with fail
      refine hc.mono ?_
      rintro e w1 ⟨rfl, hf1⟩
      have c0 := fresh_cell hf1 (show (w.alloc (.cells #[.int .i64 R, .int .i64 C, .slice ao n cap] 26)).cell? ⟨w.heap.size, 0, none⟩ = some (.int .i64 R) by simp)
      have c1 := fresh_cell hf1 (show (w.alloc (.cells #[.int .i64 R, .int .i64 C, .slice ao n cap] 26)).cell? ⟨w.heap.size, 1, none⟩ = some (.int .i64 C) by simp)
      go_wp2
      go_ret
      exact ⟨ret_bool (by rw [HE.out]), fresh_trans hf0 hf1⟩
  · have HE : Hid (b = false) := by
      show b = false
      cases hbb : b with
      | false => rfl
      | true => exact absurd (hb.1 hbb).1 hg
    have hc : Calls Tryz.prog 177 #[.agg #[.int .i64 R, .int .i64 C, .slice ao n cap]] (w.alloc (.cells #[.int .i64 R, .int .i64 C, .slice ao n cap] 26)) fun e w' => e = .returned (.int .i64 30) ∧ Below (w.alloc (.cells #[.int .i64 R, .int .i64 C, .slice ao n cap] 26)).heap.size (w.alloc (.cells #[.int .i64 R, .int .i64 C, .slice ao n cap] 26)) w' := by
      cases hs : shp R C n with
      | false => exact check_rshape hn hs
      | true => exact check_rdata (ha.fresh hf0) hs bf false ⟨fun h => by simp at h, fun h => absurd ⟨hs, h⟩ hg⟩
    clear hb hg
    go_enter Tryz.func103, Tryz.ntmps103
    go_wp2_with fail
    refine hc.mono ?_
    rintro e w1 ⟨rfl, hf1⟩
    go_wp2
    go_ret
    exact ⟨ret_bool (by rw [HE.out]), fresh_trans hf0 hf1⟩
end Go.Proofs.YtmhjpfjhppcfoaaGreatDoor
namespace Go.Proofs.YtmhjpfjhppcfoaaGreatDoor
open Go.RowKit
/-! More pieces of Check. -/
set_option maxHeartbeats 400000 in
theorem head_ref (V W H K L D N M : Int) (w : World) (hH : 1 ≤ H) (hH4 : H ≤ 4) (hW : 2 ≤ W) (hW2 : W ≤ 32) :
    Calls Tryz.prog 106 #[.agg #[.int .i64 V, .int .i64 W, .int .i64 H, .int .i64 K, .int .i64 L, .int .i64 D, .int .i64 N, .int .i64 M]] w fun e w' => e = .returned (.int .i64 (W / H)) ∧ Below w.heap.size w w' := by
  have hz : ¬ H = 0 := by omega
  have e1 : W.tdiv H = W / H := Int.tdiv_eq_ediv_of_nonneg (by omega)
  have hq0 : 0 ≤ W / H := Int.ediv_nonneg (by omega) (by omega)
  have hq1 : W / H ≤ W := Int.ediv_le_self _ (by omega)
  go_enter Tryz.func106, Tryz.ntmps106
  go_wp2
  go_ret
  exact ⟨rfl, fresh_alloc _ _⟩
set_option maxHeartbeats 400000 in
theorem headSize_any (V W H K L D N M : Int) (w : World) (hH : 1 ≤ H) (hH4 : H ≤ 4) (hW : 2 ≤ W) (hW2 : W ≤ 32) :
    Calls Tryz.prog 293 #[.agg #[.int .i64 V, .int .i64 W, .int .i64 H, .int .i64 K, .int .i64 L, .int .i64 D, .int .i64 N, .int .i64 M]] w fun e w' => e = .returned (.int .i64 (W / H)) ∧ Below w.heap.size w w' := by
  have hz : ¬ H = 0 := by omega
  have e1 : W.tdiv H = W / H := Int.tdiv_eq_ediv_of_nonneg (by omega)
  have hq0 : 0 ≤ W / H := Int.ediv_nonneg (by omega) (by omega)
  have hq1 : W / H ≤ W := Int.ediv_le_self _ (by omega)
  go_enter Tryz.func293, Tryz.ntmps293
  go_wp2
  go_ret
  exact ⟨rfl, fresh_alloc _ _⟩
/-- the least of a list -/
def imn (f : Nat → Int) : Nat → Int
  | 0 => f 0
  | n + 1 => min (imn f n) (f (n + 1))
theorem imn_iff {f : Nat → Int} {m : Int} : ∀ {n : Nat}, m ≤ imn f n ↔ ∀ i, i ≤ n → m ≤ f i
  | 0 => ⟨fun h i hi => by obtain rfl : i = 0 := by omega
                           exact h, fun h => h 0 (by omega)⟩
  | n + 1 => by
    show m ≤ min (imn f n) (f (n + 1)) ↔ _
    have ih := imn_iff (f := f) (m := m) (n := n)
    constructor
    · intro h i hi
      by_cases e : i = n + 1
      · rw [e]; omega
      · exact ih.1 (by omega) i (by omega)
    · intro h
      have h1 := ih.2 (fun i hi => h i (by omega))
      have h2 := h (n + 1) (by omega)
      omega
theorem imn_bd {f : Nat → Int} {n : Nat} (h : ∀ i, i < n + 1 → -128 ≤ f i ∧ f i ≤ 127) : ∀ k, k ≤ n → -128 ≤ imn f k ∧ imn f k ≤ 127
  | 0, _ => h 0 (by omega)
  | k + 1, hk => by
    have := imn_bd h k (by omega)
    have := h (k + 1) (by omega)
    show -128 ≤ min (imn f k) (f (k + 1)) ∧ min (imn f k) (f (k + 1)) ≤ 127
    omega
theorem imn_step (f : Nat → Int) (k : Nat) : (if f (k + 1) < imn f k then f (k + 1) else imn f k) = imn f (k + 1) := by
  show _ = min (imn f k) (f (k + 1))
  split <;> omega
set_option maxHeartbeats 1000000 in
theorem min8_any {w : World} {ao : Option Addr} {n ca : Nat} {f : Nat → Int} (ha : RdA w ao 1 (n + 1) ca (fun i => .int .i8 (f i))) :
    Calls Tryz.prog 296 #[.slice ao (n + 1) ca] w fun e w' => e = .returned (.int .i8 (imn f n)) ∧ w' = w := by
  have hn : n + 1 ≤ 9223372036854775807 := by have := ha.le; have := ha.top; unfold maxLen at this; omega
  obtain ⟨b1, o1, rfl, h1⟩ := ha.one (by omega)
  have c0 := h1 0 (by omega)
  simp only [Nat.add_zero] at c0
  have HH := hidd h1
  clear h1
  generalize hN : n + 1 = N at *
  have hN0 : ¬ (N : Int) < 1 := by omega
  have HN := hidd hN
  clear hN
  go_enter Tryz.func296, Tryz.ntmps296
  go_wp2
  clear c0
  go_loop [3, 4] (fun m i => ∃ k : Nat, k + 1 ≤ N ∧ i = .int .i64 ((k : Int) + 1) ∧ m = .int .i8 (imn f k)) (fun _ i => N - (intOf i).toNat)
  case atStart => exact ⟨0, by omega, rfl, rfl⟩
  case round =>
    obtain ⟨k, hk, rfl, rfl⟩ := hrel
    by_cases hlt : k + 1 < N
    · have c1 := HH.out (k + 1) hlt
      go_wp2
      go_round
      case rel => exact ⟨k + 1, by omega, by go_num, by rw [imn_step]⟩
      case measure => simp [intOf]; omega
    · go_wp2
      go_ret
      exact ⟨ret_int (by have := HN.out; rw [show k = n by omega]), rfl⟩
set_option maxHeartbeats 1000000 in
theorem gainsFit_any {w : World} (V W H K L D N M : Int) {ao : Option Addr} {n ca : Nat} {f : Nat → Int} (ha : RdA w ao 1 n ca (fun i => .int .i8 (f i))) (hW : 2 ≤ W) (b : Bool) (hb : b = true ↔ GnP n f W) :
    Calls Tryz.prog 236 #[.agg #[.int .i64 V, .int .i64 W, .int .i64 H, .int .i64 K, .int .i64 L, .int .i64 D, .int .i64 N, .int .i64 M], .slice ao n ca] w fun e w' => e = .returned (.bool b) ∧ Below w.heap.size w w' := by
  have hf0 := fresh_alloc w (.cells #[.int .i64 V, .int .i64 W, .int .i64 H, .int .i64 K, .int .i64 L, .int .i64 D, .int .i64 N, .int .i64 M] 23)
  by_cases q : (n : Int) = W
  · obtain ⟨m, rfl⟩ : ∃ m, n = m + 1 := ⟨n - 1, by omega⟩
    have hc := min8_any (ha.fresh hf0)
    have HE : Hid (decide (-127 ≤ imn f m) = b) := by
      show decide (-127 ≤ imn f m) = b
      cases hbb : b with
      | true => simp only [decide_eq_true_eq]; exact imn_iff.2 (fun i hi => (hb.1 hbb).2 i (by omega))
      | false =>
        simp only [decide_eq_false_iff_not]
        intro h
        have := hb.2 ⟨q, fun i hi => imn_iff.1 h i (by omega)⟩
        rw [hbb] at this
        cases this
    have e1 : (((m + 1 : Nat) : Int) == W) = true := by simp; omega
    generalize hN : m + 1 = N at *
    clear hN hb q
    go_enter Tryz.func236, Tryz.ntmps236
    go_wp2_with fail
    refine hc.mono ?_
    rintro e w1 ⟨rfl, hw1⟩
    rw [hw1]
    clear hw1 hc
    go_wp2
    go_ret
    exact ⟨ret_bool HE.out, hf0⟩
  · have e1 : ((n : Int) == W) = false := by simp [q]
    have HE : Hid (b = false) := by
      show b = false
      cases hbb : b with
      | false => rfl
      | true => exact absurd (hb.1 hbb).1 q
    clear hb q
    go_enter Tryz.func236, Tryz.ntmps236
    go_wp2
    go_ret
    exact ⟨ret_bool HE.out.symm, hf0⟩
end Go.Proofs.YtmhjpfjhppcfoaaGreatDoor
namespace Go.Proofs.YtmhjpfjhppcfoaaGreatDoor
open Go.RowKit
/-! Comparing two lists that are alike. -/
def tcs (C S : Nat → Int) : Nat → Value := fun j => if j % 2 = 0 then .int .i64 (C (j / 2)) else .int .i64 (S (j / 2))
theorem tcs0 (C S : Nat → Int) (i : Nat) : tcs C S (i * 2) = .int .i64 (C i) := by
  unfold tcs; rw [if_pos (by omega), show i * 2 / 2 = i by omega]
theorem tcs1 (C S : Nat → Int) (i : Nat) : tcs C S (i * 2 + 1) = .int .i64 (S i) := by
  unfold tcs; rw [if_neg (by omega), show (i * 2 + 1) / 2 = i by omega]
theorem RdA.two {w : World} {ao : Option Addr} {n cap : Nat} {C S : Nat → Int} (h : RdA w ao 2 n cap (tcs C S)) (hn : 0 < n) : ∃ b off, ao = some ⟨b, off, none⟩ ∧ ∀ i, i < n → w.cell? ⟨b, off + i * 2, none⟩ = some (.int .i64 (C i)) ∧ w.cell? ⟨b, off + i * 2 + 1, none⟩ = some (.int .i64 (S i)) := by
  obtain ⟨b, off, rfl, hc⟩ := h.at_ hn
  refine ⟨b, off, rfl, fun i hi => ⟨?_, ?_⟩⟩
  · rw [hc (i * 2) (by omega), tcs0]
  · rw [show off + i * 2 + 1 = off + (i * 2 + 1) by omega, hc (i * 2 + 1) (by omega), tcs1]
end Go.Proofs.YtmhjpfjhppcfoaaGreatDoor
namespace Go.Proofs.YtmhjpfjhppcfoaaGreatDoor
open Go.RowKit
/-! The turns of some weights. -/
set_option maxHeartbeats 2000000 in
theorem turns_ref {w : World} {ao : Option Addr} {n ca : Nat} {C S : Nat → Int} (ha : RdA w ao 2 n ca (tcs C S)) (k : Int) (b : Bool) (hb : b = true ↔ TnP n C S k) :
    Calls Tryz.prog 105 #[.slice ao n ca, .int .i64 k] w fun e w' => e = .returned (.bool b) ∧ Below w.heap.size w w' := by
  have hn : n ≤ 9223372036854775807 := by have := ha.le; have := ha.top; unfold maxLen at this; omega
  by_cases hW : (n : Int) = k
  · subst hW
    have hne : ((n : Int) != (n : Int)) = false := by simp
    have HB := hidd hb
    clear hb
    go_enter Tryz.func105, Tryz.ntmps105
    go_wp2
    clear hne
    go_loopw [5] (fun i wr => ∃ k : Nat, k ≤ n ∧ i = .int .i64 k ∧ Hid (∀ j, j < k → (-16384 ≤ C j ∧ C j ≤ 16384) ∧ (-16384 ≤ S j ∧ S j ≤ 16384)) ∧ Below w.heap.size w wr) (fun i _ => n - (intOf i).toNat)
    case atStart => exact ⟨0, by omega, rfl, fun j hj => absurd hj (by omega), Below.refl _ _⟩
    case round =>
      obtain ⟨k, hk, rfl, HK, hf⟩ := hrel
      by_cases hlt : k < n
      · obtain ⟨b1, o1, rfl, h1⟩ := (ha.fresh hf).two (by omega)
        obtain ⟨c1, c2⟩ := h1 k hlt
        clear h1
        have HE : (¬ ((-16384 ≤ C k ∧ C k ≤ 16384) ∧ (-16384 ≤ S k ∧ S k ≤ 16384))) → Hid (b = false) := fun q => by
          show b = false
          cases hbb : b with
          | false => rfl
          | true => exact absurd ((HB.out.1 hbb).2 k hlt) q
        have HK' : ((-16384 ≤ C k ∧ C k ≤ 16384) ∧ (-16384 ≤ S k ∧ S k ≤ 16384)) → Hid (∀ j, j < k + 1 → (-16384 ≤ C j ∧ C j ≤ 16384) ∧ (-16384 ≤ S j ∧ S j ≤ 16384)) := fun q j hj => by
          by_cases e : j = k
          · subst e; exact q
          · exact HK.out j (by omega)
        by_cases q0 : C k < -16384
        · have d0 : decide (C k < -16384) = true := by simp only [decide_eq_true_eq]; exact q0
          have HX := HE (by omega)
          clear HE HK' q0
          go_wp2
          go_ret
          exact ⟨ret_bool HX.out.symm, hf⟩
        have d0 : decide (C k < -16384) = false := by simp only [decide_eq_false_iff_not]; exact q0
        by_cases q1 : 16384 < C k
        · have d1 : decide (16384 < C k) = true := by simp only [decide_eq_true_eq]; exact q1
          have HX := HE (by omega)
          clear HE HK' q0 q1
          go_wp2
          go_ret
          exact ⟨ret_bool HX.out.symm, hf⟩
        have d1 : decide (16384 < C k) = false := by simp only [decide_eq_false_iff_not]; exact q1
        by_cases q2 : S k < -16384
        · have d2 : decide (S k < -16384) = true := by simp only [decide_eq_true_eq]; exact q2
          have HX := HE (by omega)
          clear HE HK' q0 q1 q2
          go_wp2
          go_ret
          exact ⟨ret_bool HX.out.symm, hf⟩
        have d2 : decide (S k < -16384) = false := by simp only [decide_eq_false_iff_not]; exact q2
        by_cases q3 : 16384 < S k
        · have d3 : decide (16384 < S k) = true := by simp only [decide_eq_true_eq]; exact q3
          have HX := HE (by omega)
          clear HE HK' q0 q1 q2 q3
          go_wp2
          go_ret
          exact ⟨ret_bool HX.out.symm, hf⟩
        have d3 : decide (16384 < S k) = false := by simp only [decide_eq_false_iff_not]; exact q3
        have HY := HK' (by omega)
        clear HE HK' q0 q1 q2 q3
        go_wp2
        go_roundw
        case rel => exact ⟨k + 1, by omega, by go_num, HY, hf⟩
        case measure => simp [intOf]; omega
      · have HE : Hid (b = true) := HB.out.2 ⟨rfl, fun i hi => HK.out i (by omega)⟩
        go_wp2
        go_ret
        exact ⟨ret_bool HE.out.symm, hf⟩
  · have hne : ((n : Int) != k) = true := by simp [hW]
    have HE : Hid (b = false) := by
      show b = false
      cases hbb : b with
      | false => rfl
      | true => exact absurd (hb.1 hbb).1 hW
    clear hW hb
    go_enter Tryz.func105, Tryz.ntmps105
    go_wp2
    go_ret
    exact ⟨ret_bool HE.out.symm, Below.refl _ _⟩
set_option maxHeartbeats 2000000 in
theorem turnsFit_any {w : World} (V W H K L D N M : Int) (hH : 1 ≤ H) (hH4 : H ≤ 4) (hW : 2 ≤ W) (hW2 : W ≤ 32) {ao : Option Addr} {n ca : Nat} {C S : Nat → Int} (ha : RdA w ao 2 n ca (tcs C S)) (b : Bool) (hb : b = true ↔ TnP n C S (W / H / 2)) :
    Calls Tryz.prog 237 #[.agg #[.int .i64 V, .int .i64 W, .int .i64 H, .int .i64 K, .int .i64 L, .int .i64 D, .int .i64 N, .int .i64 M], .slice ao n ca] w fun e w' => e = .returned (.bool b) ∧ Below w.heap.size w w' := by
  have hn : n ≤ 9223372036854775807 := by have := ha.le; have := ha.top; unfold maxLen at this; omega
  have hf0 := fresh_alloc w (.cells #[.int .i64 V, .int .i64 W, .int .i64 H, .int .i64 K, .int .i64 L, .int .i64 D, .int .i64 N, .int .i64 M] 23)
  have hc := headSize_any V W H K L D N M (w.alloc (.cells #[.int .i64 V, .int .i64 W, .int .i64 H, .int .i64 K, .int .i64 L, .int .i64 D, .int .i64 N, .int .i64 M] 23)) hH hH4 hW hW2
  have hq0 : 0 ≤ W / H := Int.ediv_nonneg (by omega) (by omega)
  have hq1 : W / H ≤ W := Int.ediv_le_self _ (by omega)
  have e1 : (W / H).tdiv 2 = W / H / 2 := Int.tdiv_eq_ediv_of_nonneg hq0
  generalize W / H = q at *
  by_cases hk : (n : Int) = q / 2
  · have hne : ((n : Int) != q / 2) = false := by simp [hk]
    rw [← hk] at hb
    have HB := hidd hb
    clear hb hk
    go_enter Tryz.func237, Tryz.ntmps237
    go_wp2_with fail
    refine hc.mono ?_
    rintro e w1 ⟨rfl, hf1⟩
    have hF := fresh_trans hf0 hf1
    clear hf0 hf1 hc
    go_wp2
    clear hne e1
    go_loopw [15] (fun i wr => ∃ k : Nat, k ≤ n ∧ i = .int .i64 k ∧ Hid (∀ j, j < k → (-16384 ≤ C j ∧ C j ≤ 16384) ∧ (-16384 ≤ S j ∧ S j ≤ 16384)) ∧ Below w.heap.size w wr) (fun i _ => n - (intOf i).toNat)
    case atStart => exact ⟨0, by omega, rfl, fun j hj => absurd hj (by omega), hF⟩
    case round =>
      obtain ⟨k, hk, rfl, HK, hf⟩ := hrel
      by_cases hlt : k < n
      · obtain ⟨b1, o1, rfl, h1⟩ := (ha.fresh hf).two (by omega)
        obtain ⟨c1, c2⟩ := h1 k hlt
        clear h1
        have HE : (¬ ((-16384 ≤ C k ∧ C k ≤ 16384) ∧ (-16384 ≤ S k ∧ S k ≤ 16384))) → Hid (b = false) := fun q => by
          show b = false
          cases hbb : b with
          | false => rfl
          | true => exact absurd ((HB.out.1 hbb).2 k hlt) q
        have HK' : ((-16384 ≤ C k ∧ C k ≤ 16384) ∧ (-16384 ≤ S k ∧ S k ≤ 16384)) → Hid (∀ j, j < k + 1 → (-16384 ≤ C j ∧ C j ≤ 16384) ∧ (-16384 ≤ S j ∧ S j ≤ 16384)) := fun q j hj => by
          by_cases e : j = k
          · subst e; exact q
          · exact HK.out j (by omega)
        by_cases ho : S k < C k
        · by_cases q0 : S k < -16384
          · have HX := HE (by omega)
            have r0 : S k < -16384 := q0
            clear HE HK' q0
            go_wp2
            go_ret
            exact ⟨ret_bool HX.out.symm, fresh_trans hf (fresh_alloc _ _)⟩
          by_cases q1 : 16384 < C k
          · have HX := HE (by omega)
            have r0 : ¬ S k < -16384 := q0
            have r1 : 16384 < C k := q1
            clear HE HK' q0 q1
            go_wp2
            go_ret
            exact ⟨ret_bool HX.out.symm, fresh_trans hf (fresh_alloc _ _)⟩
          have HY := HK' (by omega)
          have r0 : ¬ S k < -16384 := q0
          have r1 : ¬ 16384 < C k := q1
          clear HE HK' q0 q1
          go_wp2
          go_roundw
          case rel => exact ⟨k + 1, by omega, by go_num, HY, fresh_trans hf (fresh_alloc _ _)⟩
          case measure => simp [intOf]; omega
        · by_cases q0 : C k < -16384
          · have HX := HE (by omega)
            have r0 : C k < -16384 := q0
            clear HE HK' q0
            go_wp2
            go_ret
            exact ⟨ret_bool HX.out.symm, fresh_trans hf (fresh_alloc _ _)⟩
          by_cases q1 : 16384 < S k
          · have HX := HE (by omega)
            have r0 : ¬ C k < -16384 := q0
            have r1 : 16384 < S k := q1
            clear HE HK' q0 q1
            go_wp2
            all_goals go_ret
            all_goals exact ⟨ret_bool HX.out.symm, fresh_trans hf (fresh_alloc _ _)⟩
          have HY := HK' (by omega)
          have r0 : ¬ C k < -16384 := q0
          have r1 : ¬ 16384 < S k := q1
          clear HE HK' q0 q1
          go_wp2
          go_roundw
          case rel => exact ⟨k + 1, by omega, by go_num, HY, fresh_trans hf (fresh_alloc _ _)⟩
          case measure => simp [intOf]; omega
      · have HE : Hid (b = true) := HB.out.2 ⟨rfl, fun i hi => HK.out i (by omega)⟩
        go_wp2
        go_ret
        exact ⟨ret_bool HE.out.symm, hf⟩
  · have hne : ((n : Int) != q / 2) = true := by simp [hk]
    have HE : Hid (b = false) := by
      show b = false
      cases hbb : b with
      | false => rfl
      | true => exact absurd (hb.1 hbb).1 hk
    clear hk hb
    go_enter Tryz.func237, Tryz.ntmps237
    go_wp2_with fail
    refine hc.mono ?_
    rintro e w1 ⟨rfl, hf1⟩
    go_wp2
    go_ret
    exact ⟨ret_bool HE.out.symm, fresh_trans hf0 hf1⟩
end Go.Proofs.YtmhjpfjhppcfoaaGreatDoor
