import Derived.Test.YtnpdkiljhdagjaaDoorAts
import Derived.Test.YtnpdkiljhdagjaaDoorSpot
namespace Go.Proofs.YtnpdkiljhdagjaaDoor
open Go.ChangeShapes Go.WideShapes Go.ChangeAt Go.RowKit
/-! A slice of spots that came in: its cells. -/
theorem add_in (b off k j : Nat) : ((⟨b, off, none⟩ : Addr).add k).add j = ⟨b, off + k + j, none⟩ := by
  unfold Addr.add
  split <;> split <;> simp_all
theorem spot_none {w : World} {a : Addr} {v : Value} (h : w.cell? a = some v) : ∃ b off, a = ⟨b, off, none⟩ := by
  obtain ⟨b, off, sp⟩ := a
  cases sp with
  | none => exact ⟨b, off, rfl⟩
  | some x =>
    unfold World.cell? at h
    split at h <;> simp at h
theorem three_cells {w : World} {base : Nat} {a : Addr} {x y z : Value} (h : w.cells? base a 3 = some [x, y, z]) : w.cell? (a.add 0) = some x ∧ w.cell? (a.add 1) = some y ∧ w.cell? (a.add 2) = some z := by
  unfold World.cells? at h
  split at h
  · rw [show List.range 3 = [0, 1, 2] from rfl] at h
    simp only [List.mapM_cons, List.mapM_nil, Option.bind_eq_bind, Option.bind_eq_some_iff, Option.pure_def, Option.some.injEq] at h
    obtain ⟨x0, e0, t0, ⟨y0, e1, t1, ⟨z0, e2, t2, rfl, h2⟩, h1⟩, h0⟩ := h
    subst h2
    subst h1
    simp only [List.cons.injEq, and_true] at h0
    obtain ⟨rfl, rfl, rfl⟩ := h0
    exact ⟨e0, e1, e2⟩
  · cases h
section
variable {H : Type} {enc : TypeId × Value → H} {W : World} {base : Nat} {sp : Nat → Bool} {held : Bool}
theorem open_spots {r : Reach} {b0 : Nat} {v : Value} {d : DataW H} {ps : List MemPlace} (hval : Value.okWide Tryd.prog W r b0 29 v) (hd : DataW.Trod enc Tryd.prog W base sp held 29 v d ps) :
    (∃ a cap, v = .slice a 0 cap) ∨ ∃ (b off len cap : Nat) (S : Nat → Nat) (U V : Nat → Int), v = .slice (some ⟨b, off, none⟩) len cap ∧ 0 < len ∧ len ≤ 9223372036854775807 ∧
      ∀ i, i < len → W.cell? ⟨b, off + i * 3, none⟩ = some (.int .u64 (S i : Int)) ∧ W.cell? ⟨b, off + i * 3 + 1, none⟩ = some (.int .i64 (U i)) ∧ W.cell? ⟨b, off + i * 3 + 2, none⟩ = some (.int .i64 (V i)) := by
  obtain ⟨a0, len0, cap0, rfl⟩ := okWide_slice Tryd.underlying29 hval
  obtain ⟨fuel, hd⟩ := hd
  rcases DataW.trod_slice Tryd.underlying29 hd with ⟨hcs, _⟩ | ⟨a, len, cap, elems, rest, n, rfl, hcs, hx, hb, hl, hm, he, hel, _, _⟩
  · left
    simp [Value.cells] at hcs
    exact ⟨a0, cap0, by rw [hcs.2.1]⟩
  · simp [Value.cells] at hcs
    obtain ⟨rfl, rfl, rfl⟩ := hcs
    rcases Nat.eq_zero_or_pos len0 with rfl | hp
    · exact .inl ⟨_, _, rfl⟩
    · right
      have key : ∀ i, i < len0 → ∃ (s : Nat) (u v : Int), W.cell? ((a.add (i * 3)).add 0) = some (.int .u64 (s : Int)) ∧ W.cell? ((a.add (i * 3)).add 1) = some (.int .i64 u) ∧ W.cell? ((a.add (i * 3)).add 2) = some (.int .i64 v) := by
        intro i hi
        have h1 := hel i hi
        rw [List.getElem?_eq_getElem (by omega), cells_spot] at h1
        obtain ⟨cs, q0, q1⟩ := Option.bind_eq_some_iff.1 h1
        obtain ⟨s, u, v, rfl, _, ws, _, _⟩ := cells_of_spot q1
        have bs := bounds_u64 ws
        obtain ⟨s, rfl⟩ := Int.eq_ofNat_of_zero_le bs.1
        obtain ⟨g0, g1, g2⟩ := three_cells q0
        exact ⟨s, u, v, g0, g1, g2⟩
      obtain ⟨_, _, _, g, _⟩ := key 0 hp
      obtain ⟨b, off, rfl⟩ : ∃ b off, a = ⟨b, off, none⟩ := spot_none (show W.cell? a = _ from g)
      have pick : ∀ i, ∃ t : Nat × Int × Int, i < len0 → W.cell? ⟨b, off + i * 3, none⟩ = some (.int .u64 (t.1 : Int)) ∧ W.cell? ⟨b, off + i * 3 + 1, none⟩ = some (.int .i64 t.2.1) ∧ W.cell? ⟨b, off + i * 3 + 2, none⟩ = some (.int .i64 t.2.2) := by
        intro i
        by_cases hi : i < len0
        · obtain ⟨s, u, v, g0, g1, g2⟩ := key i hi
          rw [add_in] at g0 g1 g2
          exact ⟨(s, u, v), fun _ => ⟨g0, g1, g2⟩⟩
        · exact ⟨(0, 0, 0), fun h => absurd h hi⟩
      obtain ⟨f, hf⟩ := Classical.axiomOfChoice pick
      have hmax : maxLen = 9223372036854775807 := by decide
      exact ⟨b, off, len0, cap0, fun i => (f i).1, fun i => (f i).2.1, fun i => (f i).2.2, rfl, hp, by omega, fun i hi => hf i hi⟩
end
theorem ats_walk {H : Type} {enc : TypeId × Value → H} {base : Nat} {sp : Nat → Bool} {held : Bool} {r : Reach} {b0 : Nat} {v : Value} {d : DataW H} {ps : List MemPlace} (W : World) (hw : Holds W)
    (hval : Value.okWide Tryd.prog W r b0 29 v) (hd : DataW.Trod enc Tryd.prog W base sp held 29 v d ps) :
    Calls Tryd.prog 6 #[v] W fun e w' => e = .returned (.bool true) ∧ Fresh W w' := by
  rcases open_spots hval hd with ⟨a, cap, rfl⟩ | ⟨b, off, len, cap, S, U, V, rfl, h0, h1, hc⟩
  · exact (ats_empty a cap W).mono fun e w' ⟨he, hf⟩ => ⟨he, hf ▸ Fresh.refl _⟩
  · by_cases h : len < 4611686018427387904
    · exact ats_full b off len cap S U V W hw h0 h hc
    · exact (ats_great _ len cap W (by omega) h1).mono fun e w' ⟨he, hf⟩ => ⟨he, hf ▸ Fresh.refl _⟩
end Go.Proofs.YtnpdkiljhdagjaaDoor
