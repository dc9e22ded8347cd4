import Derived.Test.YtakekdbclmgeoabTrO
import Derived.Test.YtakekdbclmgeoabTjB
import Derived.Test.YtakekdbclmgeoabRaw
namespace Go.Proofs.Ytakekdbclmgeoab
open Go.ChangeShapes Go.WideShapes Go.ChangeAt Go.RowKit
/-! Lists of lists of raw nodes that came in. -/
theorem wf_i64 {n : Int} (h : (Lit.int .i64 n).wf = true) : -9223372036854775808 ≤ n ∧ n ≤ 9223372036854775807 := by
  have hmin : IntKind.i64.min = -9223372036854775808 := rfl
  have hmax : IntKind.i64.max = 9223372036854775807 := rfl
  simp only [Lit.wf, Bool.and_eq_true, decide_eq_true_eq] at h; omega
theorem bulk_one {H : Type} (d : DataW H) : 1 ≤ Rows.uptoBulk d := by
  cases d with
  | lit l => cases l <;> simp [Rows.uptoBulk]
  | nil => simp [Rows.uptoBulk]
  | ptr d => simp [Rows.uptoBulk]
  | slice a b => simp [Rows.uptoBulk]
  | agg a => simp [Rows.uptoBulk]
  | iface t d => simp [Rows.uptoBulk]
  | map e => simp [Rows.uptoBulk]
  | held h => simp [Rows.uptoBulk]
theorem bulk_mem {H : Type} {d : DataW H} : ∀ {l : List (DataW H)}, d ∈ l → Rows.uptoBulk d ≤ Rows.uptoBulkAll l
  | [], h => absurd h (by simp)
  | x :: r, h => by
    simp only [Rows.uptoBulkAll]
    rcases List.mem_cons.1 h with e | e
    · subst e; omega
    · have := bulk_mem e; omega
theorem bulk_length {H : Type} : ∀ (l : List (DataW H)), l.length ≤ Rows.uptoBulkAll l
  | [] => by simp [Rows.uptoBulkAll]
  | x :: r => by
    have h1 := bulk_one x
    have h2 := bulk_length r
    simp only [Rows.uptoBulkAll, List.length_cons]; omega
theorem two_cells {w : World} {base : Nat} {a : Addr} {x y : Value} (h : w.cells? base a 2 = some [x, y]) : w.cell? (a.add 0) = some x ∧ w.cell? (a.add 1) = some y := by
  unfold World.cells? at h
  split at h
  · rw [show List.range 2 = [0, 1] from rfl] at h
    simp only [List.mapM_cons, List.mapM_nil, Option.bind_eq_bind, Option.bind_eq_some_iff, Option.pure_def, Option.some.injEq] at h
    obtain ⟨x0, e0, t0, ⟨y0, e1, t1, rfl, h1⟩, h0⟩ := h
    subst h1
    simp only [List.cons.injEq, and_true] at h0
    obtain ⟨rfl, rfl⟩ := h0
    exact ⟨e0, e1⟩
  · cases h
theorem one_cell {w : World} {base : Nat} {a : Addr} {cs : List Value} (h : w.cells? base a 1 = some cs) : ∃ v, cs = [v] ∧ w.cell? (a.add 0) = some v := by
  unfold World.cells? at h
  split at h
  · rw [show List.range 1 = [0] from rfl] at h
    simp only [List.mapM_cons, List.mapM_nil, Option.bind_eq_bind, Option.bind_eq_some_iff, Option.pure_def, Option.some.injEq] at h
    obtain ⟨x0, e0, t0, rfl, h0⟩ := h
    exact ⟨x0, h0.symm, e0⟩
  · cases h
section
variable {H : Type} {enc : TypeId × Value → H} {W : World} {base : Nat} {sp : Nat → Bool} {held : Bool}
set_option maxRecDepth 100000 in
theorem open_raw1 {fuel : Nat} {v : Value} {x : DataW H × List MemPlace} (h : DataW.trod enc Try.prog W base sp held fuel 22 [v] = some x) :
    ∃ (ao : Option Addr) (cap : Nat) (R : List (Int × Int)), v = .slice ao R.length cap ∧ RdA W ao 2 R.length cap (rwF R) ∧ R.length ≤ Rows.uptoBulk x.1 ∧ ∀ j, j < R.length → (R.getD j (0, 0)).1 ≤ 9223372036854775807 := by
  rcases DataW.trod_slice Try.underlying22 h with ⟨hcs, hx⟩ | ⟨a, len, cap, elems, rest, n, rfl, hcs, hx, hb, hl, hm, he, hel, _, _⟩
  · simp at hcs
    exact ⟨none, 0, [], hcs, ⟨Nat.le_refl _, Nat.zero_le _, fun h => absurd h (by simp)⟩, Nat.zero_le _, fun j hj => absurd hj (Nat.not_lt_zero _)⟩
  · simp at hcs
    subst hcs
    have key : ∀ i, ∃ t : Int × Int, i < len → W.cell? ((a.add (i * 2)).add 0) = some (.int .i64 t.1) ∧ W.cell? ((a.add (i * 2)).add 1) = some (.int .i64 t.2) ∧ t.1 ≤ 9223372036854775807 := by
      intro i
      by_cases hi : i < len
      · have h1 := hel i hi
        rw [List.getElem?_eq_getElem (by omega), cells_raw] at h1
        obtain ⟨cs, q0, q1⟩ := Option.bind_eq_some_iff.1 h1
        obtain ⟨s, u, rfl, _, hwf, _⟩ := cells_of_raw q1
        obtain ⟨g0, g1⟩ := two_cells q0
        exact ⟨(s, u), fun _ => ⟨g0, g1, (wf_i64 hwf).2⟩⟩
      · exact ⟨(0, 0), fun h => absurd h hi⟩
    obtain ⟨f, hf⟩ := Classical.axiomOfChoice key
    have hR : ((List.range len).map f).length = len := by simp
    refine ⟨some a, cap, (List.range len).map f, by rw [hR], ⟨by rw [hR]; exact hl, hm, fun hp => ?_⟩, ?_, fun j hj => ?_⟩
    · rw [hR] at hp
      obtain ⟨b, off, rfl⟩ : ∃ b off, a = ⟨b, off, none⟩ := spot_none (show W.cell? a = _ from (hf 0 hp).1)
      refine ⟨b, off, rfl, fun j hj => ?_⟩
      rw [hR] at hj
      have hg : ∀ i, i < len → ((List.range len).map f).getD i (0, 0) = f i := fun i hi => by
        rw [List.getD_eq_getElem?_getD]
        simp [hi]
      obtain ⟨i, h⟩ : ∃ i, j = i * 2 ∨ j = i * 2 + 1 := ⟨j / 2, by omega⟩
      have hh := hf i (by omega)
      simp only [add_in] at hh
      rcases h with rfl | rfl
      · rw [rwF_1, hg i (by omega)]; exact hh.1
      · rw [rwF_2, hg i (by omega), show off + (i * 2 + 1) = off + i * 2 + 1 by omega]; exact hh.2.1
    · rw [hR, hx]
      have := bulk_length (elems.map (·.1))
      rw [List.length_map] at this
      show _ ≤ Rows.uptoBulk (.slice (elems.map (·.1)) (rest.map (·.1)))
      simp only [Rows.uptoBulk]
      omega
    · rw [hR] at hj
      rw [List.getD_eq_getElem?_getD]
      simp only [List.getElem?_map, List.getElem?_range hj, Option.map_some, Option.getD_some]
      exact (hf j hj).2.2
theorem jn_bulk (X : Nat → List (Int × Int)) : ∀ (E : List (DataW H)) (off : Nat), (∀ i e, E[i]? = some e → (X (off + i)).length ≤ Rows.uptoBulk e) → (jn X (off + E.length)).length ≤ (jn X off).length + Rows.uptoBulkAll E
  | [], off, _ => by simp
  | e :: r, off, h => by
    have h0 := h 0 e rfl
    have ih := jn_bulk X r (off + 1) (fun i e' he => by
      have := h (i + 1) e' (by simpa using he)
      rw [show off + (i + 1) = off + 1 + i by omega] at this
      exact this)
    rw [jn_len] at ih
    rw [List.length_cons, show off + (r.length + 1) = off + 1 + r.length by omega]
    simp only [Rows.uptoBulkAll]
    rw [Nat.add_zero] at h0
    omega
theorem cellsSR : Try.prog.cellsOf 22 = 1 := by kernel_rfl
set_option maxRecDepth 100000 in
theorem open_raws {r : Reach} {b0 : Nat} {v : Value} {d : DataW H} {ps : List MemPlace} (hval : Value.okWide Try.prog W r b0 42 v) (hd : DataW.Trod enc Try.prog W base sp held 42 v d ps) :
    ∃ (ao : Option Addr) (m cap : Nat) (X : Nat → List (Int × Int)) (A : Nat → Option Addr) (C : Nat → Nat), v = .slice ao m cap ∧ Rl W ao m cap X A C ∧ m ≤ Rows.uptoBulk d ∧ (jn X m).length ≤ Rows.uptoBulk d ∧ ∀ i, i < m → ∀ j, j < (X i).length → ((X i).getD j (0, 0)).1 ≤ 9223372036854775807 := by
  obtain ⟨a0, len0, cap0, rfl⟩ := okWide_slice Try.underlying42 hval
  obtain ⟨fuel, hd⟩ := hd
  rcases DataW.trod_slice Try.underlying42 hd with ⟨hcs, hx⟩ | ⟨a, len, cap, elems, rest, n, rfl, hcs, hx, hb, hl, hm, he, hel, _, _⟩
  · simp [Value.cells] at hcs
    obtain ⟨rfl, rfl, rfl⟩ := hcs
    exact ⟨none, 0, 0, fun _ => [], fun _ => none, fun _ => 0, rfl, ⟨⟨Nat.le_refl _, Nat.zero_le _, fun h => absurd h (by omega)⟩, fun i hi => absurd hi (by omega)⟩, Nat.zero_le _, Nat.zero_le _, fun i hi => absurd hi (by omega)⟩
  · simp [Value.cells] at hcs
    obtain ⟨rfl, rfl, rfl⟩ := hcs
    have key : ∀ i, ∃ t : Option Addr × Nat × List (Int × Int), i < len0 → W.cell? ((a.add (i * 1)).add 0) = some (.slice t.1 t.2.2.length t.2.1) ∧ RdA W t.1 2 t.2.2.length t.2.1 (rwF t.2.2) ∧ (∀ e, elems[i]? = some e → t.2.2.length ≤ Rows.uptoBulk e.1) ∧ ∀ j, j < t.2.2.length → (t.2.2.getD j (0, 0)).1 ≤ 9223372036854775807 := by
      intro i
      by_cases hi : i < len0
      · have h1 := hel i hi
        rw [List.getElem?_eq_getElem (by omega), cellsSR] at h1
        obtain ⟨cs, q0, q1⟩ := Option.bind_eq_some_iff.1 h1
        obtain ⟨v, rfl, g0⟩ := one_cell q0
        obtain ⟨ao, cap, R, rfl, hr, hbk, hpp⟩ := open_raw1 q1
        exact ⟨(ao, cap, R), fun _ => ⟨g0, hr, fun e he => by rw [List.getElem?_eq_getElem (by omega)] at he; cases he; exact hbk, hpp⟩⟩
      · exact ⟨(none, 0, []), fun h => absurd h hi⟩
    obtain ⟨f, hf⟩ := Classical.axiomOfChoice key
    have hx1 : d = .slice (elems.map (·.1)) (rest.map (·.1)) := congrArg Prod.fst hx
    have hbl := bulk_length (elems.map (·.1))
    have hjb := jn_bulk (fun i => (f i).2.2) (elems.map (·.1)) 0 (fun i e he => by
      rw [List.getElem?_map] at he
      obtain ⟨e', he', rfl⟩ := Option.map_eq_some_iff.1 he
      rw [Nat.zero_add]
      have hi : i < len0 := by have := (List.getElem?_eq_some_iff.1 he').1; omega
      exact (hf i hi).2.2.1 e' he')
    rw [List.length_map] at hbl hjb
    rw [Nat.zero_add, he] at hjb
    refine ⟨some a, len0, cap0, fun i => (f i).2.2, fun i => (f i).1, fun i => (f i).2.1, rfl, ⟨⟨hl, hm, fun hp => ?_⟩, fun i hi => (hf i hi).2.1⟩, ?_, ?_, fun i hi => (hf i hi).2.2.2⟩
    · obtain ⟨b, off, rfl⟩ : ∃ b off, a = ⟨b, off, none⟩ := spot_none (show W.cell? a = _ from (hf 0 hp).1)
      refine ⟨b, off, rfl, fun j hj => ?_⟩
      have hh := (hf j (by omega)).1
      simp only [add_in, Nat.mul_one, Nat.add_zero] at hh
      exact hh
    · rw [hx1]
      simp only [Rows.uptoBulk]
      omega
    · rw [hx1]
      have : (jn (fun i => (f i).2.2) 0).length = 0 := rfl
      simp only [Rows.uptoBulk]
      omega
end
end Go.Proofs.Ytakekdbclmgeoab
