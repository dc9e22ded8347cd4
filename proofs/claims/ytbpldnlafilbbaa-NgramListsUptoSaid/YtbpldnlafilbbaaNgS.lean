import Derived.Test.YtbpldnlafilbbaaNgK
import Derived.Test.YtbpldnlafilbbaaNgM
import Derived.BigQuiet
namespace Go.Proofs.Ytbpldnlafilbbaa
open Go.RowKit
/-! EqInts, EqRaw, CopyInts, gram. -/
theorem below_drewN {w v : World} (h : Below w.heap.size w v) (k : Nat) : Below w.heap.size w (v.drewN k) := h.trans ((fresh_drewN v k).mono h.size)
set_option maxRecDepth 20000 in
set_option maxHeartbeats 1600000 in
theorem eqInts_any {w : World} {ao bo : Option Addr} {n m ca cb : Nat} {f g : Nat → Int} (ha : RdA w ao 1 n ca (fun i => .int .i64 (f i))) (hb : RdA w bo 1 m cb (fun i => .int .i64 (g i))) :
    Calls Try.prog 19 #[.slice ao n ca, .slice bo m cb] w fun e w' => (∃ r : Bool, e = .returned (.bool r) ∧ (r = true ↔ n = m ∧ ∀ i, i < n → f i = g i)) ∧ Below w.heap.size w w' := by
  have hn : n ≤ 9223372036854775807 := by have := ha.le; have := ha.top; unfold maxLen at this; omega
  have hm : m ≤ 9223372036854775807 := by have := hb.le; have := hb.top; unfold maxLen at this; omega
  by_cases hnm : n = m
  · subst hnm
    go_enter Try.func19, Try.ntmps19
    go_wp2
    go_loopw [5] (fun i wr => ∃ k : Nat, k ≤ n ∧ i = .int .i64 k ∧ Hid (∀ j, j < k → f j = g j) ∧ Below w.heap.size w wr) (fun i _ => n - (intOf i).toNat)
    case atStart => exact ⟨0, by omega, rfl, fun j hj => absurd hj (by omega), Below.refl _ _⟩
    case round =>
      obtain ⟨k, hk, rfl, HE, hf⟩ := hrel
      by_cases hlt : k < n
      · obtain ⟨b1, o1, rfl, h1⟩ := (ha.fresh hf).one (by omega)
        obtain ⟨b2, o2, rfl, h2⟩ := (hb.fresh hf).one (by omega)
        have c1 := h1 k hlt
        have c2 := h2 k hlt
        clear h1 h2
        by_cases e : f k = g k
        · rw [← e] at c2
          have HE3 := hidd e
          clear e
          go_wp2
          go_quiet (fail)
          go_wp2
          go_roundw
          case rel => exact ⟨k + 1, by omega, by go_num, fun j hj => (by
            by_cases q : j = k
            · rw [q]; exact HE3.out
            · exact HE.out j (by omega)), below_drewN hf _⟩
          case measure => simp [intOf]; omega
        · have x3 : decide (f k = g k) = false := decide_eq_false e
          have HE3 := hidd e
          go_wp2
          go_quiet (fail)
          go_wp2
          go_ret
          exact ⟨⟨false, rfl, ⟨fun q => (by cases q), fun q => absurd (q.2 k hlt) HE3.out⟩⟩, below_drewN hf _⟩
      · obtain rfl : n = k := by omega
        go_wp2
        go_ret
        exact ⟨⟨true, rfl, ⟨fun _ => ⟨(by first | rfl | trivial), HE.out⟩, fun _ => rfl⟩⟩, hf⟩
  · have hne : ¬ (n : Int) = (m : Int) := by omega
    go_enter Try.func19, Try.ntmps19
    go_wp2
    go_ret
    exact ⟨⟨false, rfl, ⟨fun q => (by cases q), fun q => absurd q.1 hnm⟩⟩, Below.refl _ _⟩
set_option maxRecDepth 20000 in
set_option maxHeartbeats 1600000 in
theorem copyI_any {w : World} {ao : Option Addr} {n cap : Nat} {f : Nat → Int} (h : RdA w ao 1 n cap (fun i => .int .i64 (f i))) (hn : n ≤ 17592186043904) :
    Calls Try.prog 23 #[.slice ao n cap] w fun e w' => ∃ u uc, e = .returned (.slice u n uc) ∧ Own w' w.heap.size 3 1 (.slice u n uc) n (fun i => .int .i64 (f i)) ∧ Below w.heap.size w w' := by
  have hn2 : n ≤ 9223372036854775807 := by omega
  go_enter Try.func23, Try.ntmps23
  go_wp2
  go_loopw [3, 4] (fun v i wr => ∃ k : Nat, k ≤ n ∧ i = .int .i64 k ∧ Own wr w.heap.size 3 1 v k (fun j => .int .i64 (f j)) ∧ Below w.heap.size w wr) (fun _ i _ => n - (intOf i).toNat)
  case atStart => exact ⟨0, by omega, rfl, own_nil _ _ _ _ _, Below.refl _ _⟩
  case round =>
    obtain ⟨k, hk, rfl, hown, hf⟩ := hrel
    have hsz := hf.size
    by_cases hlt : k < n
    · obtain ⟨b1, o1, rfl, h1⟩ := (h.fresh hf).one (by omega)
      have d := h1 k hlt
      have hle := h.le
      have HX : Hid (∀ (w0 : World) (t : TypeId), (w0.alloc (.cells #[.int .i64 (f k)] t)).cell? ⟨w0.heap.size, 0, none⟩ = some ((fun j => Value.int .i64 (f j)) k)) := fun w0 t => new_cell _ _ _
      clear h1
      generalize f k = y at d HX
      go_wp2_with (at_builtin; refine wpList_app1 _ rfl _ _ 22 rfl w.heap.size 3 (.int .i64 0) 8 Try.underlying22 infoI rfl _ k (fun j => .int .i64 (f j)) rfl (hown.kept (fresh_alloc _ _)) _ 1 rfl (HX.out _ _) rfl (by omega) (by omega) (by simp; omega) ?_)
      intro v' w1 hown' happ
      have hf1 := happ.below (hf.alloc hsz _) (hown.kept (fresh_alloc _ _)) (Nat.le_refl _) (by simp; omega)
      clear happ hown
      go_wp2
      go_roundw
      case rel => exact ⟨k + 1, by omega, by go_num, hown', hf1⟩
      case measure => simp [intOf]; omega
    · obtain rfl : k = n := by omega
      obtain ⟨u, uc, rfl, hu⟩ := hown.rd
      go_wp2
      go_ret
      exact ⟨u, uc, rfl, hown, hf⟩
theorem rwF_1 (R : List (Int × Int)) (k : Nat) : rwF R (k * 2) = .int .i64 (R.getD k (0, 0)).1 := by
  unfold rwF
  rw [if_pos (by omega), show k * 2 / 2 = k by omega]
theorem rwF_2 (R : List (Int × Int)) (k : Nat) : rwF R (k * 2 + 1) = .int .i64 (R.getD k (0, 0)).2 := by
  unfold rwF
  rw [if_neg (by omega), show (k * 2 + 1) / 2 = k by omega]
set_option maxRecDepth 20000 in
set_option maxHeartbeats 1600000 in
theorem eqRaw_same {w : World} {ao bo : Option Addr} {ca cb : Nat} {R : List (Int × Int)} (ha : RdA w ao 2 R.length ca (rwF R)) (hb : RdA w bo 2 R.length cb (rwF R)) :
    Calls Try.prog 20 #[.slice ao R.length ca, .slice bo R.length cb] w fun e w' => e = .returned (.bool true) ∧ Below w.heap.size w w' := by
  obtain ⟨n, hnl⟩ : ∃ n, n = R.length := ⟨_, rfl⟩
  rw [← hnl] at ha hb ⊢
  have hn : n ≤ 9223372036854775807 := by have := ha.le; have := ha.top; unfold maxLen at this; omega
  go_enter Try.func20, Try.ntmps20
  go_wp2
  go_loopw [5] (fun i wr => ∃ k : Nat, k ≤ n ∧ i = .int .i64 k ∧ Below w.heap.size w wr) (fun i _ => n - (intOf i).toNat)
  case atStart => exact ⟨0, by omega, rfl, Below.refl _ _⟩
  case round =>
    obtain ⟨k, hk, rfl, hf⟩ := hrel
    by_cases hlt : k < n
    · obtain ⟨b1, o1, rfl, h1⟩ := (ha.fresh hf).at_ (by omega)
      obtain ⟨b2, o2, rfl, h2⟩ := (hb.fresh hf).at_ (by omega)
      have c1 := h1 (k * 2) (by omega)
      have d1 := h1 (k * 2 + 1) (by omega)
      have c2 := h2 (k * 2) (by omega)
      have d2 := h2 (k * 2 + 1) (by omega)
      rw [rwF_1] at c1 c2
      rw [rwF_2, ← Nat.add_assoc] at d1 d2
      generalize (R.getD k (0, 0)).1 = y1 at c1 c2
      generalize (R.getD k (0, 0)).2 = y2 at d1 d2
      clear h1 h2
      go_wp2
      go_quiet (fail)
      go_wp2
      go_roundw
      case rel => exact ⟨k + 1, by omega, by go_num, below_drewN hf _⟩
      case measure => simp [intOf]; omega
    · obtain rfl : n = k := by omega
      go_wp2
      go_ret
      exact ⟨rfl, hf⟩
/-- the number brought to 1 to 4 -/
def grN (n : Int) : Nat := (n % 4).toNat + 1
theorem grN_le (n : Int) : 1 ≤ grN n ∧ grN n ≤ 4 := by unfold grN; omega
set_option maxRecDepth 20000 in
theorem gram_any (w : World) (n : Int) : Calls Try.prog 11 #[.int .i64 n] w fun e w' => e = .returned (.int .i64 (grN n)) ∧ w' = w := by
  obtain ⟨t, ht, h1, h2⟩ : ∃ t : Int, n.tmod 4 = t ∧ (t < 0 → t + 4 = n % 4) ∧ (0 ≤ t → t = n % 4) := by
    have h0 := @Int.tmod_eq_emod n 4
    obtain ⟨t, ht⟩ : ∃ t, n.tmod 4 = t := ⟨_, rfl⟩
    rw [ht] at h0
    by_cases hc : 0 ≤ n ∨ 4 ∣ n
    · rw [if_pos hc] at h0
      rw [show ((0 : Nat) : Int) = 0 from rfl] at h0
      exact ⟨t, ht, fun h => by omega, fun h => by omega⟩
    · rw [if_neg hc, show (((4 : Int).natAbs : Nat) : Int) = 4 from rfl] at h0
      exact ⟨t, ht, fun h => by omega, fun h => by omega⟩
  have HT : -4 ≤ t ∧ t < 4 := by
    by_cases h : t < 0
    · have := h1 h; omega
    · have := h2 (by omega); omega
  obtain ⟨g1, g2⟩ := HT
  have hw0 : IntKind.i64.wrap t = t := by rw [IntKind.wrap_i64]; clear h1 h2; omega
  by_cases h : t < 0
  · have hd : decide (t < 0) = true := decide_eq_true h
    have hw1 : IntKind.i64.wrap (t + 4) = t + 4 := wrap_small _ (by omega) (by omega)
    have hw2 : IntKind.i64.wrap (t + 4 + 1) = t + 4 + 1 := wrap_small _ (by omega) (by omega)
    have he := hidd (show t + 4 + 1 = (grN n : Int) by have := h1 h; unfold grN; omega)
    clear h1 h2
    go_enter Try.func11, Try.ntmps11
    go_wp2
    go_ret
    exact ⟨by rw [he.out]; rfl, rfl⟩
  · have hd : decide (t < 0) = false := decide_eq_false h
    have hw2 : IntKind.i64.wrap (t + 1) = t + 1 := wrap_small _ (by omega) (by omega)
    have he := hidd (show t + 1 = (grN n : Int) by have := h2 (by omega); unfold grN; omega)
    clear h1 h2
    go_enter Try.func11, Try.ntmps11
    go_wp2
    go_ret
    exact ⟨by rw [he.out]; rfl, rfl⟩
end Go.Proofs.Ytbpldnlafilbbaa
