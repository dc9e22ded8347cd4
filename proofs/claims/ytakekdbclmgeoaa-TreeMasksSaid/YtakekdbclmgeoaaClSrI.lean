import Derived.Test.YtakekdbclmgeoaaClSrH
import Derived.Test.YtakekdbclmgeoaaClTrA
namespace Go.Proofs.Ytakekdbclmgeoaa.Cl
open Go.RowKit
/-! SortStableFunc; what byDepth makes. -/
set_option maxRecDepth 20000 in
theorem sortst_any {w : World} {g N c : Nat} {d : Nat → Nat} {bx M : Nat} {K : Nat → Int} {nb o nc : Nat} (h : w.rowIs g 3 N (fun i => .int .i64 ((d i : Nat) : Int))) (hN : N ≤ 1048576) (hk : NdK w bx M K nb o nc) (h1 : bx ≠ g) (h2 : nb ≠ g) (hd : ∀ i, i < N → d i < M) (hm : ∀ u v, u < v → v < N → d u < d v) :
    Calls Try.prog 47 #[.slice (some ⟨g, 0, none⟩) N c, .func (.func 48) #[] #[.pointer (some ⟨bx, 0, none⟩)]] w fun e w' => e = .returned (.tuple #[]) ∧ ∃ d', Rw w g N d' w' ∧ Fr d d' 0 N ∧ Srt K d' 0 N := by
  have HS := hidd (stable_any (c := c) h hN hk h1 h2 hd hm)
  clear h hk hd hm
  go_enter Try.func47, Try.ntmps47
  go_wp2_with fail
  refine HS.out.mono ?_
  rintro e w2 ⟨rfl, hx⟩
  have HX := hidd hx
  clear hx HS
  go_wp2
  go_end0
  exact ⟨rfl, HX.out⟩
/-- as many places as numbers: every number has its place -/
theorem onto_of : ∀ (n : Nat) (f : Nat → Nat), (∀ i, i < n → f i < n) → (∀ i j, i < n → j < n → f i = f j → i = j) → ∀ v, v < n → ∃ i, i < n ∧ f i = v := by
  intro n
  induction n with
  | zero => intro f _ _ v hv; omega
  | succ n ih =>
    intro f hf hi v hv
    have hx := hf n (by omega)
    have hne : ∀ i, i < n → f i ≠ f n := fun i h e => by have := hi i n (by omega) (by omega) e; omega
    have key := ih (fun i => if f i = n then f n else f i) (fun i h => by
      have := hf i (by omega)
      have := hne i h
      show (if f i = n then f n else f i) < n
      split <;> omega) (fun i j h1 h2 e => by
      have a1 := hne i h1
      have a2 := hne j h2
      have a3 := hi i j (by omega) (by omega)
      have e : (if f i = n then f n else f i) = (if f j = n then f n else f j) := e
      split at e <;> split at e
      · exact a3 (by omega)
      · exact absurd e.symm a2
      · exact absurd e a1
      · exact a3 e)
    by_cases q : v = f n
    · exact ⟨n, by omega, q.symm⟩
    by_cases q2 : v = n
    · obtain ⟨i, i1, i2⟩ := key (f n) (by omega)
      have i2 : (if f i = n then f n else f i) = f n := i2
      split at i2
      · exact ⟨i, by omega, by omega⟩
      · exact absurd i2 (hne i i1)
    · obtain ⟨i, i1, i2⟩ := key v (by omega)
      have i2 : (if f i = n then f n else f i) = v := i2
      split at i2
      · exact absurd i2.symm q
      · exact ⟨i, by omega, i2⟩
theorem ltK.ne {K : Nat → Int} {x y : Nat} (h : ltK K x y) : x ≠ y := fun e => by
  subst e
  unfold ltK at h
  omega
theorem Srt.inj {K : Nat → Int} {d : Nat → Nat} {n : Nat} (h : Srt K d 0 n) {i j : Nat} (hi : i < n) (hj : j < n) (e : d i = d j) : i = j := by
  by_cases q : i < j
  · exact absurd e (h i j (Nat.zero_le _) q hj).ne
  · by_cases q2 : j < i
    · exact absurd e.symm (h j i (Nat.zero_le _) q2 hi).ne
    · omega
/-- where a number went, told by its first k places -/
def mv (d : Nat → Nat) : Nat → Nat → Nat
  | 0, _ => 0
  | k + 1, v => if v = d k then k else mv d k v
theorem mv_at {d : Nat → Nat} {n : Nat} (hi : ∀ i j, i < n → j < n → d i = d j → i = j) : ∀ k, k ≤ n → ∀ j, j < k → mv d k (d j) = j := by
  intro k
  induction k with
  | zero => intro _ j hj; omega
  | succ k ih =>
    intro hk j hj
    unfold mv
    split
    · next e => exact (hi j k (by omega) (by omega) e).symm
    · next e =>
      refine ih (by omega) j ?_
      by_cases q : j = k
      · subst q; exact absurd rfl e
      · omega
theorem mv_lt (d : Nat → Nat) : ∀ k v, 0 < k → mv d k v < k := by
  intro k
  induction k with
  | zero => intro v h; omega
  | succ k ih =>
    intro v _
    unfold mv
    split
    · omega
    · by_cases q : k = 0
      · subst q; unfold mv; omega
      · have := ih v (by omega); omega
/-- the nodes in their new order, the first k of them -/
def ouP (P : Nat → Int) (d e : Nat → Nat) : Nat → Int := fun i => if i = 0 then P (d 0) else ((e (P (d i)).toNat : Nat) : Int)
theorem made3 (w : World) (n : Nat) (t : TypeId) : (w.alloc (.cells (madeCells #[.int .i64 0, .int .i64 0, .int .i64 0] (n * 3)) t)).rowIs w.heap.size t (n * 3) (fun _ => .int .i64 0) :=
  ⟨_, Go.Deep.blk_alloc_new _ _, size_madeCells _ _, fun i hi => by
    have : i % 3 = 0 ∨ i % 3 = 1 ∨ i % 3 = 2 := by omega
    rcases this with e | e | e <;> simp [madeCells, hi, e]⟩
theorem run_make_nodes (n : Nat) (hn : n ≤ 1048576) (w : World) : (Instr.makeSlice 29 (.int .i64 (n : Int)) (.int .i64 (n : Int))).run Try.prog w = .ok (.slice (some ⟨w.heap.size, 0, none⟩) n n) (w.alloc (.cells (madeCells #[.int .i64 0, .int .i64 0, .int .i64 0] (n * 3)) 54)) := by
  obtain ⟨i, hi, z0, z1, z2⟩ := info_parts infoN
  have hr := run_make (P := Try.prog) w 29 54 i _ Try.underlying29 hi z0 .i64 .i64 n n (by omega) (Int.le_refl _) (by rw [z2]; omega) (by omega)
  simp only [Int.toNat_natCast, z1] at hr
  exact hr
end Go.Proofs.Ytakekdbclmgeoaa.Cl
