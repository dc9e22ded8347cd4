import Derived.Test.YtaalinlggjimcaaPA
import Derived.Test.YtaalinlggjimcaaLat
import Derived.Deep.RegionHeld3
import Derived.Deep.DrawnRows
namespace Go.Proofs.Ytaalinlggjimcaa
open Go.RowKit
/-! The pool's blocks and slots: where they lie; New, Take, NewTable. -/
/-- a product of three and its parts -/
theorem part_le {b B n T : Nat} (hb : b < B) (hT : T = B * n) : b * n + n ≤ T := by
  subst hT
  have := Nat.mul_le_mul_right n (show b + 1 ≤ B from hb)
  rw [Nat.succ_mul] at this
  exact this
structure Geo (L W B S q n T : Nat) : Prop where
  eq : q = L * 2 * W
  en : n = S * q
  eT : T = B * S * q
  q1 : 2 ≤ q
  q2 : q ≤ 256
  n1 : 2 ≤ n
  n2 : n ≤ 4096
  T2 : T ≤ 1048576
theorem geo {L W B S : Nat} (hL : 1 ≤ L ∧ L ≤ 4) (hW : 1 ≤ W ∧ W ≤ 32) (hB : 1 ≤ B ∧ B ≤ 256) (hS : 1 ≤ S ∧ S ≤ 16) : ∃ q n T, Geo L W B S q n T := by
  refine ⟨L * 2 * W, S * (L * 2 * W), B * S * (L * 2 * W), rfl, rfl, rfl, ?_, ?_, ?_, ?_, ?_⟩
  · have := Nat.mul_le_mul (Nat.mul_le_mul hL.1 (Nat.le_refl 2)) hW.1; omega
  · have := Nat.mul_le_mul (Nat.mul_le_mul hL.2 (Nat.le_refl 2)) hW.2; omega
  · have := Nat.mul_le_mul hS.1 (Nat.mul_le_mul (Nat.mul_le_mul hL.1 (Nat.le_refl 2)) hW.1); omega
  · have := Nat.mul_le_mul hS.2 (Nat.mul_le_mul (Nat.mul_le_mul hL.2 (Nat.le_refl 2)) hW.2); omega
  · have := Nat.mul_le_mul (Nat.mul_le_mul hB.2 hS.2) (Nat.mul_le_mul (Nat.mul_le_mul hL.2 (Nat.le_refl 2)) hW.2); omega
theorem PoolAt.geo {w : World} {g cb nb L W B S : Nat} {cnt : Nat → Nat} {num : Nat → Int} (h : PoolAt w g cb nb L W B S cnt num) : ∃ q n T, Geo L W B S q n T := Ytaalinlggjimcaa.geo h.hL h.hW h.hB h.hS
theorem Geo.tot {L W B S q n T : Nat} (h : Geo L W B S q n T) : T = B * n := by rw [h.eT, h.en, Nat.mul_assoc]
set_option maxHeartbeats 800000 in
theorem block_any {w : World} {g cb nb L W B S q n T b : Nat} {cnt : Nat → Nat} {num : Nat → Int} (h : PoolAt w g cb nb L W B S cnt num) (G : Geo L W B S q n T) (hb : b < B) :
    Calls Try.prog 47 #[.pointer (some ⟨g, 0, none⟩), .int .i64 b] w fun e w' => e = .returned (.slice (some ⟨nb, b * n, none⟩) n (T - b * n)) ∧ Below w.heap.size w w' := by
  obtain ⟨c0, c1, c2, c3, c4⟩ := h.cells
  rw [← G.eq, ← G.eT] at c4
  have HO : Hid (∀ x : Later w, Calls Try.prog 45 #[.pointer (some ⟨g, 0, none⟩)] x.val fun e w' => e = .returned (.int .i64 (q : Int)) ∧ Below x.val.heap.size x.val w') := fun x => by rw [G.eq]; exact ofSlot_at (later_cell c0 x) (later_cell c1 x) h.hL h.hW
  have k2 := later_cell c2
  have hne := later_some w
  have K4 := hidd c4
  have hp := part_le hb G.tot
  have e1 : (S : Int) * (q : Int) = (n : Int) := by rw [G.en]; push_cast; rfl
  obtain ⟨o, ho⟩ : ∃ o, o = b * n := ⟨_, rfl⟩
  rw [← ho] at hp ⊢
  have e2 : (b : Int) * (n : Int) = (o : Int) := by rw [ho]; push_cast; rfl
  have hT := G.T2
  have hn1 := G.n1
  have hn2 := G.n2
  have hB := h.hB
  have hS := h.hS
  have hq2 := G.q2
  clear ho G h c0 c1 c2 c3 c4
  go_enter Try.func47, Try.ntmps47
  go_wp2
  refine wp_region_later (by kernel_rfl) (by kernel_rfl) ?_
  repeat (go_big_quiet_step (fail))
  go_big_quiet_step (exact later_of (HO.out _))
  repeat (go_big_quiet_step (fail))
  refine wpQuiet_nil ?_
  rintro _ ⟨z, rfl⟩
  have hz := z.fresh
  have c4 := fresh_cell hz K4.out
  clear k2 HO K4 hne
  generalize z.val = w1 at *
  go_wp2
  go_ret
  refine ⟨?_, hz⟩
  simp
end Go.Proofs.Ytaalinlggjimcaa
