import Derived.Test.YtppcgfdogacmkaaQB
namespace Go.Proofs.Ytppcgfdogacmkaa
open Go.RowKit
/-! Get. -/
/-- what Get hands over -/
structure Got (w w' : World) (a b W : Nat) (fk fv : Nat → Int) : Prop where
  ka : w'.rowIs a 116 W (fun i => .int .i8 (fk i))
  vb : w'.rowIs b 116 W (fun i => .int .i8 (fv i))
  ne : a ≠ b
  na : w.heap.size ≤ a
  nb : w.heap.size ≤ b
  low : Below w.heap.size w w'
set_option maxRecDepth 20000 in
set_option maxHeartbeats 2000000 in
theorem get_ok {w : World} {g cb nb L W B S q n T s so l lw : Nat} {cnt : Nat → Nat} {num : Nat → Int} (h : PoolAt w g cb nb L W B S cnt num) (G : Geo L W B S q n T) (hso : so = s * q) (hT : so + q ≤ T) (hlw : lw = l * 2 * W) (hl : lw + 2 * W ≤ q) (hlL : l < L) (hs : s ≤ 9223372036854775807) (hsB : s / S < B) (hsc : cnt (s / S) ≠ 0) :
    Calls Try.prog 42 #[.pointer (some ⟨g, 0, none⟩), .int .i64 l, .int .i64 s] w fun e w' => ∃ a b, e = .returned (.tuple #[.slice (some ⟨a, 0, none⟩) W W, .slice (some ⟨b, 0, none⟩) W W, .int .i64 0]) ∧ Got w w' a b W (fun i => num (so + lw + i)) (fun i => num (so + lw + W + i)) := by
  have H := hidd h
  obtain ⟨c0, c1, c2, c3, c4⟩ := h.cells
  have hW := h.hW
  have HHL := hidd (hasLayer_yes c0 hlL)
  have HUS := hidd (usesSlot_yes h hs hsB hsc)
  have HV := hidd (vectors_any h G hso hT hlw hl)
  have HG := hidd G
  have C1 := hidd (fun (z : World) (f : Below w.heap.size w z) => fresh_cell f c1)
  have HROW : Hid (∀ z, Below w.heap.size w z → z.rowIs nb 116 T (fun i => .int .i8 (num i))) := fun z f => by
    have := (H.out.fresh f).nums
    rw [← HG.out.eq, ← HG.out.eT] at this
    exact this
  obtain ⟨o, ho⟩ : ∃ o, o = so + lw := ⟨_, rfl⟩
  have hT1 : o + W ≤ T := by omega
  have hT2 : o + W + W ≤ T := by omega
  rw [← ho] at HV ⊢
  obtain ⟨i8, hi8, z80, z81, z82⟩ := info_parts infoI8
  have hmk : ∀ w, (Instr.makeSlice 32 (.int .i64 (W : Int)) (.int .i64 (W : Int))).run Try.prog w = .ok (.slice (some ⟨w.heap.size, 0, none⟩) W W) (w.alloc (.cells (madeCells #[.int .i8 0] W) 116)) := run_make_row 32 116 i8 (.int .i8 0) Try.underlying32 hi8 z80 z81 rfl .i64 .i64 W (by rw [z82]; omega) (by omega)
  have hnl : nb < w.heap.size := h.nums.lt
  clear h c0 c1 c2 c3 c4 hT hlw hl hso hsc hsB G ho hi8 z80 z81 z82
  go_enter Try.func42, Try.ntmps42
  go_upto_region 6 with (first
    | (go_at_call 70; with_reducible refine HHL.out.mono ?_; rintro e w9 ⟨rfl, h9⟩; rw [h9]; clear h9)
    | (go_at_call 71; with_reducible refine HUS.out.mono ?_; rintro e w9 ⟨rfl, h9⟩; rw [h9]; clear h9)
    | (go_at_call 72; with_reducible refine HV.out.mono ?_; rintro e w1 ⟨rfl, f1⟩))
  clear HHL HUS HV
  have c1 := C1.out _ f1
  go_cut [6, 7] (fun k v wx => ∃ a b, k = .slice (some ⟨a, 0, none⟩) W W ∧ v = .slice (some ⟨b, 0, none⟩) W W ∧ a ≠ b ∧ w.heap.size ≤ a ∧ w.heap.size ≤ b ∧ wx.rowIs a 116 W (fun _ => .int .i8 0) ∧ wx.rowIs b 116 W (fun _ => .int .i8 0) ∧ Below w.heap.size w wx)
  case first =>
    have hs1 := f1.size
    have c1a := fresh_cell (fresh_alloc w1 (.cells (madeCells #[.int .i8 0] W) 116)) c1
    have q1 : ((w1.alloc (.cells (madeCells #[.int .i8 0] W) 116)).alloc (.cells (madeCells #[.int .i8 0] W) 116)).drew.rowIs w1.heap.size 116 W (fun _ => .int .i8 0) := ((World.rowIs_made w1 (.int .i8 0) W 116).alloc _).drew
    have q2 : ((w1.alloc (.cells (madeCells #[.int .i8 0] W) 116)).alloc (.cells (madeCells #[.int .i8 0] W) 116)).drew.rowIs (w1.heap.size + 1) 116 W (fun _ => .int .i8 0) := by
      have := (World.rowIs_made (w1.alloc (.cells (madeCells #[.int .i8 0] W) 116)) (.int .i8 0) W 116).drew
      rwa [World.size_alloc] at this
    have q3 : Below w.heap.size w ((w1.alloc (.cells (madeCells #[.int .i8 0] W) 116)).alloc (.cells (madeCells #[.int .i8 0] W) 116)).drew := ((f1.alloc hs1 _).alloc (by simp; omega) _).drew
    have Q1 := hidd q1
    have Q2 := hidd q2
    have Q3 := hidd q3
    clear q1 q2 q3
    go_region
    all_goals
      go_wp2
      go_meet
      case rel =>
        first
          | exact ⟨_, _, rfl, rfl, by omega, by omega, by omega, Q1.out, Q2.out, Q3.out⟩
          | exact ⟨_, _, rfl, rfl, by omega, by omega, by omega, Q2.out, Q1.out, Q3.out⟩
  case rest =>
    clear c1 C1 hmk
    obtain ⟨a, b, rfl, rfl, hab, ha, hb, ra, rb, f2⟩ := hcut
    have RA := hidd ra
    have RB := hidd rb
    have RN := hidd (HROW.out _ f2)
    clear ra rb HROW
    go_upto_region 8 with (refine wpList_copyR rfl _ _ 32 32 rfl 116 Try.underlying32 size8 a 0 W _ nb o W _ W rfl rfl (by simp) 116 W _ RA.out (by omega) (fun j => .int .i8 (num (o + j))) (fun j hj => RN.out.cell (by omega)) (fun _ _ => rfl) ?_; intro w2 r2 ch2)
    have R2 := hidd r2
    have HC2 := hidd ch2
    have RN2 := hidd (ch2.row RN.out (by omega))
    have RB2 := hidd (ch2.row RB.out (fun e => hab e.symm))
    clear r2 ch2 RN RB
    go_wp2_with (refine wpList_copyR rfl _ _ 32 32 rfl 116 Try.underlying32 size8 b 0 W _ nb (o + W) W _ W rfl rfl (by simp) 116 W _ RB2.out (by omega) (fun j => .int .i8 (num (o + W + j))) (fun j hj => RN2.out.cell (by omega)) (fun _ _ => rfl) ?_; intro w3 r3 ch3)
    have R3 := hidd r3
    have HC3 := hidd ch3
    clear r3 ch3 RB2 RN2
    go_wp2
    go_ret3
    refine ⟨a, b, rfl, ?_, ?_, hab, ha, hb, ?_⟩
    · exact (HC3.out.row R2.out hab).congr (fun j hj => by rw [if_pos (by omega)]; simp)
    · exact R3.out.congr (fun j hj => by rw [if_pos (by omega)]; simp)
    · exact HC3.out.below (HC2.out.below f2 f2.size (fun x e => by subst e; exact ha)) (Nat.le_trans f2.size HC2.out.size) (fun x e => by subst e; exact hb)
end Go.Proofs.Ytppcgfdogacmkaa
