import Derived.Test.YteiocgciblogdabVBas
namespace Go.Proofs.Yteiocgciblogdab
open Go.RowKit
/-! byteByByte. -/
/-- a byte's token; 0: none -/
def VD.tok (d : VD) (x : Int) : Int := d.btk (d.nb + 1) x.toNat
theorem VD.btk_bd (d : VD) (b : Nat) : ∀ k, 0 ≤ d.btk k b ∧ d.btk k b ≤ (k : Int)
  | 0 => by simp [VD.btk]
  | k + 1 => by
    have := VD.btk_bd d b k
    rw [VD.btk]
    split
    · omega
    · omega
theorem tok_next {f : Nat → Int} {k : Nat} {F : Nat → Value} {x : Int} (h : ∀ j, j < k → F j = .int .i64 (f j)) (hx : f k = x) :
    ∀ j, j < k + 1 → (fun i => if i = k then Value.int .i64 x else F i) j = .int .i64 (f j) := fun j hj => by
  dsimp only
  by_cases e : j = k
  · rw [if_pos e, e, hx]
  · rw [if_neg e]; exact h j (by omega)
set_option maxRecDepth 20000 in
set_option maxHeartbeats 4000000 in
theorem byb_any {w : World} {d : VD} {arr : Array Value} {ao : Option Addr} {n ca : Nat} {X : Nat → Int} (ha : RdA w ao 1 n ca (fun i => .int .u8 (X i))) (hX : ∀ i, i < n → 0 ≤ X i ∧ X i ≤ 255) (hn : n ≤ 1048576) (hs : arr.size = 256) (harr : ∀ b, b < 256 → arr[b]? = some (.int .i64 (d.btk (d.nb + 1) b))) :
    Calls Try.prog 22 #[.agg arr, .slice ao n ca] w fun e w' => (((∃ i, i < n ∧ d.tok (X i) = 0) ∧ e = .returned (.tuple #[.slice none 0 0, .int .i64 51])) ∨
      ((∀ i, i < n → d.tok (X i) ≠ 0) ∧ ∃ g F, e = .returned (.tuple #[.slice (some ⟨g, 0, none⟩) n n, .int .i64 0]) ∧ w.heap.size ≤ g ∧ w'.rowIs g 3 n F ∧ ∀ j, j < n → F j = .int .i64 (d.tok (X j)))) ∧ Below w.heap.size w w' := by
  have hmk := run_make_row' (P := Try.prog) 28 3 (.int .i64 0) 8 Try.underlying28 infoI rfl .i64 .i64 n (by omega) (by omega)
  have HX := hidd hX
  have r0 := World.rowIs_alloc w arr 51 (fun b => .int .i64 (d.btk (d.nb + 1) b)) (fun b hb => harr b (by omega))
  rw [hs] at r0
  have hf0 := fresh_alloc w (.cells arr 51)
  clear hX harr hs
  go_enter Try.func22, Try.ntmps22
  go_wp2
  clear hmk
  have m0 := World.rowIs_made (w.alloc (.cells arr 51)) (.int .i64 0) n 3
  have r1 := r0.alloc (.cells (madeCells #[.int .i64 0] n) 3)
  have hf1 := fresh_trans hf0 (fresh_alloc _ (.cells (madeCells #[.int .i64 0] n) 3))
  simp only [World.size_alloc] at m0
  clear r0 hf0
  generalize (w.alloc (.cells arr 51)).alloc (.cells (madeCells #[.int .i64 0] n) 3) = w1 at *
  go_loopw [14] (fun i wr => ∃ (k : Nat) (F : Nat → Value), k ≤ n ∧ i = .int .i64 k ∧ wr.rowIs (w.heap.size + 1) 3 n F ∧ wr.rowIs w.heap.size 51 256 (fun b => .int .i64 (d.btk (d.nb + 1) b)) ∧ Hid (∀ j, j < k → F j = .int .i64 (d.tok (X j))) ∧ Hid (∀ j, j < k → d.tok (X j) ≠ 0) ∧ Below w.heap.size w wr) (fun i _ => n - (intOf i).toNat)
  case atStart => exact ⟨0, _, by omega, rfl, m0, r1, (fun j hj => absurd hj (by omega)), (fun j hj => absurd hj (by omega)), hf1⟩
  case round =>
    clear m0 r1 hf1
    obtain ⟨k, F, hk, rfl, m0, r1, HF, HN, hf⟩ := hrel
    by_cases hlt : k < n
    · obtain ⟨b1, o1, rfl, h1⟩ := (ha.fresh hf).one (by omega)
      have c1 := h1 k hlt
      clear h1
      obtain ⟨β, eB⟩ : ∃ β : Nat, X k = (β : Int) := ⟨(X k).toNat, by have := (HX.out k hlt).1; omega⟩
      have hβ : β < 256 := by have := (HX.out k hlt).2; omega
      have HT : Hid (d.tok (X k) = d.btk (d.nb + 1) β) := by show _ = _; unfold VD.tok; rw [eB]; rfl
      have cb := r1.cell (i := β) hβ
      rw [eB] at c1
      have i1 : (0 : Int) ≤ (β : Int) := Int.natCast_nonneg _
      have i2 : (β : Int) < 256 := by omega
      have bd := d.btk_bd β (d.nb + 1)
      have fa := m0.frozen
      have ca := m0.cell (i := k) hlt
      generalize d.btk (d.nb + 1) β = Y at *
      clear eB
      by_cases hY : Y = 0
      · subst hY
        go_wp2
        go_ret2
        exact ⟨.inl ⟨⟨k, hlt, HT.out⟩, rfl⟩, hf⟩
      · have HY := hidd hY
        have hY' : (Y == 0) = false := by simp [hY]
        have HF1 := hidd (tok_next HF.out HT.out)
        go_wp2
        go_roundw
        case rel => exact ⟨k + 1, _, by omega, by go_num, m0.set k _, r1.setOther (by dsimp only; omega) _, HF1.out, (fun j hj => if h : j = k then by rw [h, HT.out]; exact HY.out else HN.out j (by omega)), hf.setCell (by dsimp only; omega) _⟩
        case measure => simp [intOf]; omega
    · obtain rfl : k = n := by omega
      go_wp2
      go_ret2
      exact ⟨.inr ⟨HN.out, w.heap.size + 1, F, rfl, by omega, m0, HF.out⟩, hf⟩
end Go.Proofs.Yteiocgciblogdab
