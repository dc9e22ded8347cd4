import Derived.Test.YtbpldnlafilbbabNgSc
import Derived.WalkKit
import Derived.ProofKit
import Derived.OpenShut
import Derived.Deep.Matrix
import Derived.Deep.SlicePairs
import Derived.SizedLaws
namespace Go.Proofs.Ytbpldnlafilbbab
open Go.ChangeShapes Go.WideShapes Go.ChangeAt Go.RowKit Go.Deep
/-! The script, from what came in. -/
theorem add_lit (b off j : Nat) : (⟨b, off, none⟩ : Addr).add j = ⟨b, off + j, none⟩ := by unfold Addr.add; split <;> simp_all
theorem plain_addr {w : World} {a : Addr} {v : Value} (h : w.cell? (a.add 0) = some v) : ∃ b off, a = ⟨b, off, none⟩ := by
  obtain ⟨b, off, sp⟩ := a
  cases sp with
  | none => exact ⟨b, off, rfl⟩
  | some x =>
    have e : (⟨b, off, some x⟩ : Addr).add 0 = ⟨b, off, some x⟩ := by unfold Addr.add; simp
    rw [e] at h
    unfold World.cell? at h
    split at h <;> simp at h
theorem wf_i64 {n : Int} (h : (Lit.int .i64 n).wf = true) : -9223372036854775808 ≤ n ∧ n ≤ 9223372036854775807 := by
  have hmin : IntKind.i64.min = -9223372036854775808 := rfl
  have hmax : IntKind.i64.max = 9223372036854775807 := rfl
  simp only [Lit.wf, Bool.and_eq_true, decide_eq_true_eq] at h; omega
section
variable {H : Type} {enc : TypeId × Value → H} {P : Program} {w : World} {base : Nat} {sp : Nat → Bool} {held : Bool}
theorem open_row {t e : TypeId} {k : IntKind} {fuel : Nat} {v : Value} {x : DataW H × List MemPlace} (ht : P.underlying t = some (.slice e)) (he : P.underlying e = some (.int k)) (hc : P.cellsOf e = 1)
    (h : DataW.trod enc P w base sp held fuel t [v] = some x) :
    ∃ (ao : Option Addr) (n cap : Nat) (f : Nat → Int), v = .slice ao n cap ∧ RdA w ao 1 n cap (fun i => .int k (f i)) ∧ (∀ i, i < n → (Lit.int k (f i)).wf = true) ∧ ((x.1 = .nil ∧ n = 0) ∨ ∃ el rest, x.1 = .slice el rest ∧ el.length = n) := by
  rcases open_ints ht he hc h with ⟨hcs, hx⟩ | ⟨a, len, cap, zs, hcs, _, hl, hm, hz, hx, hcell, hwz⟩
  · simp at hcs
    exact ⟨none, 0, 0, fun _ => 0, hcs, ⟨Nat.le_refl _, Nat.zero_le _, fun h => absurd h (by omega)⟩, fun i hi => absurd hi (by omega), .inl ⟨by rw [hx], rfl⟩⟩
  · simp at hcs
    have hlz : len ≤ zs.length := by rw [hz]; split <;> omega
    refine ⟨some a, len, cap, fun i => zs.getD i 0, hcs, ⟨hl, hm, fun h0 => ?_⟩, fun i hi => ?_, .inr ⟨_, _, by rw [hx], ?_⟩⟩
    · have h1 := hcell 0 (by omega)
      obtain ⟨b, off, rfl⟩ := plain_addr h1
      exact ⟨b, off, rfl, fun j hj => by have := hcell j (by omega); rwa [add_lit] at this⟩
    · apply hwz
      dsimp only
      rw [List.getD_eq_getElem?_getD, List.getElem?_eq_getElem (by omega)]
      exact List.getElem_mem _
    · simp [lits]; omega
/-- a list of structs of five fields of one cell each -/
theorem open_fives {t e : TypeId} {f0 f1 f2 f3 f4 : Field} {fuel : Nat} {cs : List Value} {x : DataW H × List MemPlace} (ht : P.underlying t = some (.slice e)) (he : P.underlying e = some (.struct #[f0, f1, f2, f3, f4]))
    (ce : P.cellsOf e = 5) (o0 : f0.offset = 0) (o1 : f1.offset = 1) (o2 : f2.offset = 2) (o3 : f3.offset = 3) (o4 : f4.offset = 4) (c0 : P.cellsOf f0.type = 1) (c1 : P.cellsOf f1.type = 1) (c2 : P.cellsOf f2.type = 1) (c3 : P.cellsOf f3.type = 1) (c4 : P.cellsOf f4.type = 1)
    (h : DataW.trod enc P w base sp held fuel t cs = some x) :
    (cs = [.slice none 0 0] ∧ x.1 = .nil) ∨ ∃ (a : Addr) (len cap n : Nat) (rest : List (DataW H)) (V : Nat → Fin 5 → Value) (D : Nat → Fin 5 → DataW H) (Q : Nat → Fin 5 → List MemPlace), cs = [.slice (some a) len cap] ∧ len ≤ cap ∧ cap ≤ maxLen ∧ x.1 = .slice ((List.range len).map fun i => .agg [D i 0, D i 1, D i 2, D i 3, D i 4]) rest ∧
      ∀ i, i < len → (w.cell? (a.add (i * 5)) = some (V i 0) ∧ w.cell? (a.add (i * 5 + 1)) = some (V i 1) ∧ w.cell? (a.add (i * 5 + 2)) = some (V i 2) ∧ w.cell? (a.add (i * 5 + 3)) = some (V i 3) ∧ w.cell? (a.add (i * 5 + 4)) = some (V i 4)) ∧
        DataW.trod enc P w base sp held n f0.type [V i 0] = some (D i 0, Q i 0) ∧ DataW.trod enc P w base sp held n f1.type [V i 1] = some (D i 1, Q i 1) ∧ DataW.trod enc P w base sp held n f2.type [V i 2] = some (D i 2, Q i 2) ∧ DataW.trod enc P w base sp held n f3.type [V i 3] = some (D i 3, Q i 3) ∧ DataW.trod enc P w base sp held n f4.type [V i 4] = some (D i 4, Q i 4) := by
  rcases open_slice ht h with ⟨h0, h0x⟩ | ⟨a, len, cap, m, n, D, Pl, rfl, hb, hl, hm, hmm, rfl, hx⟩
  · exact .inl ⟨h0, by rw [h0x]⟩
  right
  have hlm : len ≤ m := by rw [hmm]; split <;> omega
  have each : ∀ i, ∃ q : (Fin 5 → Value) × (Fin 5 → DataW H) × (Fin 5 → List MemPlace), i < len → ((w.cell? (a.add (i * 5)) = some (q.1 0) ∧ w.cell? (a.add (i * 5 + 1)) = some (q.1 1) ∧ w.cell? (a.add (i * 5 + 2)) = some (q.1 2) ∧ w.cell? (a.add (i * 5 + 3)) = some (q.1 3) ∧ w.cell? (a.add (i * 5 + 4)) = some (q.1 4)) ∧
        DataW.trod enc P w base sp held (n - 1) f0.type [q.1 0] = some (q.2.1 0, q.2.2 0) ∧ DataW.trod enc P w base sp held (n - 1) f1.type [q.1 1] = some (q.2.1 1, q.2.2 1) ∧ DataW.trod enc P w base sp held (n - 1) f2.type [q.1 2] = some (q.2.1 2, q.2.2 2) ∧ DataW.trod enc P w base sp held (n - 1) f3.type [q.1 3] = some (q.2.1 3, q.2.2 3) ∧ DataW.trod enc P w base sp held (n - 1) f4.type [q.1 4] = some (q.2.1 4, q.2.2 4)) ∧ D i = .agg [q.2.1 0, q.2.1 1, q.2.1 2, q.2.1 3, q.2.1 4] := by
    intro i
    by_cases hi : i < len
    · obtain ⟨cs', h1, h2⟩ := hx i (by omega)
      rw [ce] at h1
      obtain ⟨_, hlen, hcell⟩ := World.cells?_some h1
      obtain ⟨xs, k, hk, hxy, _, hxl, hf⟩ := DataW.trod_struct he h2
      have hk' : k = n - 1 := by omega
      subst hk'
      match xs, hxl, cs', hlen with
      | [y0, y1, y2, y3, y4], _, [v0, v1, v2, v3, v4], _ =>
        have g0 := hf 0 f0 rfl
        have g1 := hf 1 f1 rfl
        have g2 := hf 2 f2 rfl
        have g3 := hf 3 f3 rfl
        have g4 := hf 4 f4 rfl
        simp [o0, o1, o2, o3, o4, c0, c1, c2, c3, c4] at g0 g1 g2 g3 g4
        have e0 := hcell 0 (by omega)
        have e1 := hcell 1 (by omega)
        have e2 := hcell 2 (by omega)
        have e3 := hcell 3 (by omega)
        have e4 := hcell 4 (by omega)
        rw [add_add] at e0 e1 e2 e3 e4
        simp only [Prod.mk.injEq] at hxy
        refine ⟨(fun q => match q with | 0 => v0 | 1 => v1 | 2 => v2 | 3 => v3 | 4 => v4, fun q => match q with | 0 => y0.1 | 1 => y1.1 | 2 => y2.1 | 3 => y3.1 | 4 => y4.1, fun q => match q with | 0 => y0.2 | 1 => y1.2 | 2 => y2.2 | 3 => y3.2 | 4 => y4.2), fun _ => ⟨⟨⟨by simpa using e0, by simpa using e1, by simpa using e2, by simpa using e3, by simpa using e4⟩, g0, g1, g2, g3, g4⟩, by simpa using hxy.1⟩⟩
    · exact ⟨(fun _ => .bool false, fun _ => .nil, fun _ => []), fun h => absurd h hi⟩
  obtain ⟨q, hq⟩ := Classical.axiomOfChoice each
  refine ⟨a, len, cap, n - 1, (List.range (m - len)).map (fun j => D (len + j)), fun i => (q i).1, fun i => (q i).2.1, fun i => (q i).2.2, rfl, hl, hm, ?_, fun i hi => (hq i hi).1⟩
  show DataW.slice _ _ = DataW.slice _ _
  congr 1
  exact List.map_congr_left (fun i hi => (hq i (List.mem_range.1 hi)).2)
end
theorem cellsI64 : Try.prog.cellsOf 3 = 1 := by kernel_rfl
theorem cellsOp : Try.prog.cellsOf 43 = 5 := by kernel_rfl
theorem cellsSl : Try.prog.cellsOf 22 = 1 := by kernel_rfl
theorem bytesI : Try.prog.bytesOf 3 = 8 := by kernel_rfl
theorem bytesOp : Try.prog.bytesOf 43 = 56 := by kernel_rfl
theorem weights_mem_all {H : Type} {P : Program} {e : TypeId} {d : DataW H} : ∀ {l : List (DataW H)}, d ∈ l → ∀ n ∈ d.weights P e, n ∈ DataW.weightsAll P e l
  | [], h, _, _ => absurd h (by simp)
  | x :: r, h, n, hn => by
    simp only [DataW.weightsAll, List.mem_append]
    rcases List.mem_cons.1 h with rfl | h
    · exact .inl hn
    · exact .inr (weights_mem_all h n hn)
/-- how long the tokens of a step are -/
theorem op_size {H : Type} {elems spare : List (DataW H)} (hsz : ∀ q ∈ (DataW.slice elems spare : DataW H).weights Try.prog 40, q ≤ reachBytes) {x0 x1 x2 x3 x4 : DataW H} (hm : DataW.agg [x0, x1, x2, x3, x4] ∈ elems) {n : Nat} (h : (x2 = .nil ∧ n = 0) ∨ ∃ el rest, x2 = .slice el rest ∧ el.length = n) : n ≤ 17592186043904 := by
  rcases h with ⟨_, e⟩ | ⟨el, rest, rfl, e⟩
  · omega
  · have h1 : (el.length + rest.length) * Try.prog.bytesOf 3 ∈ (DataW.slice el rest : DataW H).weights Try.prog 22 := by simp [DataW.weights, Try.underlying22]
    have h2 : (el.length + rest.length) * Try.prog.bytesOf 3 ∈ (DataW.agg [x0, x1, .slice el rest, x3, x4] : DataW H).weights Try.prog 43 := by
      simp only [DataW.weights, Try.underlying43]
      exact DataW.weights_mem_each (j := 2) (t := 22) rfl rfl _ h1
    have h3 : (el.length + rest.length) * Try.prog.bytesOf 3 ∈ (DataW.slice elems spare : DataW H).weights Try.prog 40 := by
      simp only [DataW.weights, Try.underlying40]
      exact List.mem_cons_of_mem _ (List.mem_append.2 (.inl (weights_mem_all hm _ h2)))
    have h4 := hsz _ h3
    rw [bytesI] at h4
    simp only [reachBytes] at h4
    omega
/-- a script that came in -/
theorem open_script {H : Type} {enc : TypeId × Value → H} {base : Nat} {sp : Nat → Bool} {held : Bool} {W : World} {fuel : Nat} {v : Value} {d : DataW H} {ps : List MemPlace} (h : DataW.trod enc Try.prog W base sp held fuel 40 [v] = some (d, ps)) (hsz : ∀ q ∈ d.weights Try.prog 40, q ≤ reachBytes) : ∃ so n cap s, v = .slice so n cap ∧ ScAt W so n cap s := by
  rcases open_fives Try.underlying40 Try.underlying43 cellsOp rfl rfl rfl rfl rfl cellsI64 cellsI64 cellsSl cellsI64 cellsI64 h with ⟨hcs, _⟩ | ⟨a, len, cap, n, rest, V, D, Q, hcs, hl, hm, hx, hcell⟩
  · simp at hcs
    exact ⟨none, 0, 0, ⟨fun _ => 0, fun _ => 0, fun _ => none, fun _ => 0, fun _ => 0, fun _ _ => 0, fun _ => 0, fun _ => 0⟩, hcs, ⟨⟨Nat.le_refl _, Nat.zero_le _, fun h => absurd h (by omega)⟩, fun i hi => absurd hi (by omega), fun i hi => absurd hi (by omega), fun i hi => absurd hi (by omega), ⟨Nat.zero_le _, fun i hi => absurd hi (by omega)⟩⟩⟩
  · simp at hcs
    have hd : d = .slice ((List.range len).map fun i => .agg [D i 0, D i 1, D i 2, D i 3, D i 4]) rest := hx
    subst hd
    have key : ∀ i, ∃ y : (Int × Int × Int × Int) × ((Option Addr × Nat × Nat) × (Nat → Int)), i < len → W.cell? (a.add (i * 5)) = some (.int .i64 y.1.1) ∧ W.cell? (a.add (i * 5 + 1)) = some (.int .i64 y.1.2.1) ∧ W.cell? (a.add (i * 5 + 2)) = some (.slice y.2.1.1 y.2.1.2.1 y.2.1.2.2) ∧ W.cell? (a.add (i * 5 + 3)) = some (.int .i64 y.1.2.2.1) ∧ W.cell? (a.add (i * 5 + 4)) = some (.int .i64 y.1.2.2.2) ∧
        RdA W y.2.1.1 1 y.2.1.2.1 y.2.1.2.2 (fun j => .int .i64 (y.2.2 j)) ∧ (∀ j, j < y.2.1.2.1 → fits (y.2.2 j)) ∧ y.2.1.2.1 ≤ 17592186043904 ∧ fits y.1.1 ∧ fits y.1.2.2.1 ∧ fits y.1.2.2.2 := fun i => by
      by_cases hi : i < len
      · obtain ⟨⟨g0, g1, g2, g3, g4⟩, t0, t1, t2, t3, t4⟩ := hcell i hi
        obtain ⟨y0, e0, _, w0⟩ := DataW.trod_int Try.underlying3 t0
        obtain ⟨y1, e1, _, _⟩ := DataW.trod_int Try.underlying3 t1
        obtain ⟨ao, k, kc, f, e2, hr2, hw2, hs2⟩ := open_row Try.underlying22 Try.underlying3 cellsI64 t2
        obtain ⟨y3, e3, _, w3⟩ := DataW.trod_int Try.underlying3 t3
        obtain ⟨y4, e4, _, w4⟩ := DataW.trod_int Try.underlying3 t4
        simp at e0 e1 e3 e4
        rw [e0] at g0
        rw [e1] at g1
        rw [e2] at g2
        rw [e3] at g3
        rw [e4] at g4
        have hmem : DataW.agg [D i 0, D i 1, D i 2, D i 3, D i 4] ∈ (List.range len).map fun i => DataW.agg [D i 0, D i 1, D i 2, D i 3, D i 4] := List.mem_map.2 ⟨i, List.mem_range.2 hi, rfl⟩
        exact ⟨((y0, y1, y3, y4), ((ao, k, kc), f)), fun _ => ⟨g0, g1, g2, g3, g4, hr2, fun j hj => wf_i64 (hw2 j hj), op_size hsz hmem hs2, wf_i64 w0, wf_i64 w3, wf_i64 w4⟩⟩
      · exact ⟨((0, 0, 0, 0), ((none, 0, 0), fun _ => 0)), fun e => absurd e hi⟩
    obtain ⟨Y, hY⟩ := Classical.axiomOfChoice key
    have hlen : len ≤ 17592186043904 := by
      have h1 := hsz ((((List.range len).map fun i => DataW.agg [D i 0, D i 1, D i 2, D i 3, D i 4]).length + rest.length) * Try.prog.bytesOf 43) (by simp [DataW.weights, Try.underlying40])
      rw [bytesOp] at h1
      simp only [reachBytes, List.length_map, List.length_range] at h1
      omega
    refine ⟨some a, len, cap, ⟨fun i => (Y i).1.1, fun i => (Y i).1.2.1, fun i => (Y i).2.1.1, fun i => (Y i).2.1.2.1, fun i => (Y i).2.1.2.2, fun i => (Y i).2.2, fun i => (Y i).1.2.2.1, fun i => (Y i).1.2.2.2⟩, hcs, ⟨⟨hl, hm, fun h0 => ?_⟩, fun i hi => (hY i hi).2.2.2.2.2.1, fun i hi => (hY i hi).2.2.2.2.2.2.1, fun i hi => (hY i hi).2.2.2.2.2.2.2.2, ⟨hlen, fun i hi => (hY i hi).2.2.2.2.2.2.2.1⟩⟩⟩
    obtain ⟨b, off, rfl⟩ := plain_addr (show W.cell? (a.add 0) = _ from (hY 0 (by omega)).1)
    refine ⟨b, off, rfl, fun j hj => ?_⟩
    obtain ⟨i, hij⟩ : ∃ i, j = i * 5 ∨ j = i * 5 + 1 ∨ j = i * 5 + 2 ∨ j = i * 5 + 3 ∨ j = i * 5 + 4 := ⟨j / 5, by omega⟩
    have hi : i < len := by omega
    unfold opc
    rcases hij with rfl | rfl | rfl | rfl | rfl
    · rw [← add_lit, (hY i hi).1, if_pos (by omega), show i * 5 / 5 = i by omega]
    · rw [← add_lit, (hY i hi).2.1, if_neg (by omega), if_pos (by omega), show (i * 5 + 1) / 5 = i by omega]
    · rw [← add_lit, (hY i hi).2.2.1, if_neg (by omega), if_neg (by omega), if_pos (by omega), show (i * 5 + 2) / 5 = i by omega]
    · rw [← add_lit, (hY i hi).2.2.2.1, if_neg (by omega), if_neg (by omega), if_neg (by omega), if_pos (by omega), show (i * 5 + 3) / 5 = i by omega]
    · rw [← add_lit, (hY i hi).2.2.2.2.1, if_neg (by omega), if_neg (by omega), if_neg (by omega), if_neg (by omega), show (i * 5 + 4) / 5 = i by omega]
end Go.Proofs.Ytbpldnlafilbbab
