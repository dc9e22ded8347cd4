import Derived.Test.YtdceahebkohbjabScU
namespace Go.Proofs.Ytdceahebkohbjab
open Go.RowKit
/-! works. -/
def sW : Nat → Se := fun _ => ⟨1, 6, 0, 0, none, 0, 0, fun _ => 0⟩
def cW : Me := ⟨4, 2, 6, 3, 4⟩
theorem okM_W : okM cW 1 := by unfold okM cW; simp
theorem okA_W : okA cW 1 sW := by
  refine ⟨by omega, fun i hi => ?_, fun i j h1 h2 => by omega⟩
  unfold okS okB need cW sW
  simp
theorem mk_W : (mkN cW sW 1 (hasI (fun _ => 1) 1) 1).Z = [(0, 3)] := by decide +kernel
theorem Ord.one {S L : Nat → Se} (h : Ord 1 S L) : L 0 = S 0 := by
  obtain ⟨i, hi, e⟩ := h.of_mem (j := 0) (by omega)
  rw [e, show i = 0 by omega]
set_option maxRecDepth 100000 in
set_option maxHeartbeats 1600000 in
theorem works_any (w : World) : Calls Try.prog 11 #[] w fun e w' => e = .returned (.bool true) ∧ Below w.heap.size w w' := by
  have HMK : Hid (∀ z : World, Calls Try.prog 9 #[.agg #[.int .i64 4, .int .i64 2, .int .i64 6, .int .i64 3, .int .i64 4], .slice (some ⟨z.heap.size, 0, none⟩) 1 1, .slice (some ⟨z.heap.size + 1, 0, none⟩) 1 1] ((z.alloc (.cells #[.int .i64 1, .int .i64 6, .int .i64 0, .int .i64 0, .slice none 0 0] 32)).alloc (.cells #[.int .i64 1] 3)) fun e w' => ∃ uo no co g cz, e = .returned (.tuple #[.agg #[.slice uo no co, .slice (some ⟨g, 0, none⟩) 1 cz], .int .i64 0]) ∧ w'.cell? ⟨g, 1, none⟩ = some (.int .i64 3) ∧ Below z.heap.size z w') := fun z => by
    have f1 := fresh_alloc z (.cells #[.int .i64 1, .int .i64 6, .int .i64 0, .int .i64 0, .slice none 0 0] 32)
    have f2 := fresh_alloc (z.alloc (.cells #[.int .i64 1, .int .i64 6, .int .i64 0, .int .i64 0, .slice none 0 0] 32)) (.cells #[.int .i64 1] 3)
    have f3 := fresh_trans f1 f2
    obtain ⟨e0, e1, e2, e3, e4⟩ := box5 z (.int .i64 1) (.int .i64 6) (.int .i64 0) (.int .i64 0) (.slice none 0 0) 32
    have hS : SeA ((z.alloc (.cells #[.int .i64 1, .int .i64 6, .int .i64 0, .int .i64 0, .slice none 0 0] 32)).alloc (.cells #[.int .i64 1] 3)) (some ⟨z.heap.size, 0, none⟩) 1 1 sW := ⟨⟨Nat.le_refl _, by unfold maxLen; omega, fun _ => ⟨_, _, rfl, fun j hj => by
      rw [Nat.zero_add]
      have : j = 0 ∨ j = 1 ∨ j = 2 ∨ j = 3 ∨ j = 4 := by omega
      rcases this with rfl | rfl | rfl | rfl | rfl
      · exact fresh_cell f2 e0
      · exact fresh_cell f2 e1
      · exact fresh_cell f2 e2
      · exact fresh_cell f2 e3
      · exact fresh_cell f2 e4⟩⟩, fun i hi => ⟨Nat.le_refl _, Nat.zero_le _, fun h => absurd h (by show ¬ 0 < 0; omega)⟩⟩
    have hs1 : (z.alloc (.cells #[.int .i64 1, .int .i64 6, .int .i64 0, .int .i64 0, .slice none 0 0] 32)).heap.size = z.heap.size + 1 := by simp
    have hP : RdA ((z.alloc (.cells #[.int .i64 1, .int .i64 6, .int .i64 0, .int .i64 0, .slice none 0 0] 32)).alloc (.cells #[.int .i64 1] 3)) (some ⟨z.heap.size + 1, 0, none⟩) 1 1 1 (fun i => .int .i64 ((fun _ => 1) i)) := ⟨Nat.le_refl _, by unfold maxLen; omega, fun _ => ⟨_, _, rfl, fun j hj => by
      obtain rfl : j = 0 := by omega
      have := new_cell (z.alloc (.cells #[.int .i64 1, .int .i64 6, .int .i64 0, .int .i64 0, .slice none 0 0] 32)) (.int .i64 1) 3
      rw [hs1] at this
      exact this⟩⟩
    refine (make_ok cW okM_W hS (fun h => by cases h) (by omega) hP).mono (fun e w' q => ?_)
    obtain ⟨q1, q2, _⟩ := q
    obtain ⟨L, vO, vZ, ho, hd, he, r1, r2⟩ := q2 okA_W
    have hL : mkN cW L 1 (hasI (fun _ => 1) 1) 1 = mkN cW sW 1 (hasI (fun _ => 1) 1) 1 := mkN_er (fun i hi => by rw [show i = 0 by omega, ho.one]) (fun _ _ => rfl) 1 (Nat.le_refl _)
    rw [hL, mk_W] at r2
    obtain ⟨uo, co, rfl, _⟩ := r1.rd
    rcases r2.2 with ⟨_, h0⟩ | ⟨g, cap, cur, rfl, _⟩
    · exact absurd h0 (by simp)
    · obtain ⟨b9, o9, e9, hc⟩ := (own_rda r2).at_ (by simp)
      cases e9
      have h1 := hc 1 (by simp)
      refine ⟨uo, _, co, g, cap, he, ?_, f3.trans (q1.mono f3.size)⟩
      rw [Nat.zero_add] at h1
      rw [h1]
      unfold slF slc
      have hl0 : L ((([(0, 3)] : List (Nat × Int)).getD (1 / 3) (0, 0)).1) = sW 0 := ho.one
      rw [hl0]
      rfl
  have HF0 := hidd (fresh_alloc w (.cells #[.int .i64 4, .int .i64 2, .int .i64 6, .int .i64 3, .int .i64 4] 23))
  go_enter Try.func11, Try.ntmps11
  go_upto_region 2 with fail
  obtain ⟨e0, e1, e2, e3, e4⟩ := box5 w (.int .i64 4) (.int .i64 2) (.int .i64 6) (.int .i64 3) (.int .i64 4) 23
  generalize (w.alloc (.cells #[.int .i64 4, .int .i64 2, .int .i64 6, .int .i64 3, .int .i64 4] 23)) = w1 at *
  go_wp2_with (go_at_call 9; with_reducible refine (HMK.out _).mono ?_; rintro e w3 ⟨uo, no, co, g, cz, rfl, hc3, hb3⟩; have HB3 := hidd (HF0.out.trans (hb3.mono HF0.out.size)); have hgl := lt_of_cell hc3; clear hb3)
  go_ret
  refine ⟨by first | rfl | simp, ?_⟩
  exact HB3.out.alloc HB3.out.size _
end Go.Proofs.Ytdceahebkohbjab
