import Derived.Test.YtdceahebkohbjabScB
import Derived.WalkKit
import Derived.ProofKit
import Derived.OpenShut
import Derived.Deep.Matrix
import Derived.Deep.SlicePairs
import Derived.SizedLaws
namespace Go.Proofs.Ytdceahebkohbjab
open Go.ChangeShapes Go.WideShapes Go.ChangeAt Go.RowKit Go.Deep
/-! Lists of seats that came in. -/
set_option maxRecDepth 100000 in
theorem add_lit (b off j : Nat) : (⟨b, off, none⟩ : Addr).add j = ⟨b, off + j, none⟩ := by unfold Addr.add; split <;> simp_all
set_option maxRecDepth 100000 in
theorem plain_addr {w : World} {a : Addr} {v : Value} (h : w.cell? (a.add 0) = some v) : ∃ b off, a = ⟨b, off, none⟩ := by
  obtain ⟨b, off, sp⟩ := a
  cases sp with
  | none => exact ⟨b, off, rfl⟩
  | some x =>
    have e : (⟨b, off, some x⟩ : Addr).add 0 = ⟨b, off, some x⟩ := by unfold Addr.add; simp
    rw [e] at h
    unfold World.cell? at h
    split at h <;> simp at h
set_option maxRecDepth 100000 in
theorem wf_i64 {n : Int} (h : (Lit.int .i64 n).wf = true) : -9223372036854775808 ≤ n ∧ n ≤ 9223372036854775807 := by
  have hmin : IntKind.i64.min = -9223372036854775808 := rfl
  have hmax : IntKind.i64.max = 9223372036854775807 := rfl
  simp only [Lit.wf, Bool.and_eq_true, decide_eq_true_eq] at h; omega
section
variable {H : Type} {enc : TypeId × Value → H} {P : Program} {w : World} {base : Nat} {sp : Nat → Bool} {held : Bool}
set_option maxRecDepth 100000 in
theorem open_row {t e : TypeId} {k : IntKind} {fuel : Nat} {v : Value} {x : DataW H × List MemPlace} (ht : P.underlying t = some (.slice e)) (he : P.underlying e = some (.int k)) (hc : P.cellsOf e = 1)
    (h : DataW.trod enc P w base sp held fuel t [v] = some x) :
    ∃ (ao : Option Addr) (n cap : Nat) (f : Nat → Int), v = .slice ao n cap ∧ RdA w ao 1 n cap (fun i => .int k (f i)) ∧ (∀ i, i < n → (Lit.int k (f i)).wf = true) ∧ ((x.1 = .nil ∧ n = 0) ∨ ∃ el rest, x.1 = .slice el rest ∧ el.length = n) := by
  rcases open_ints ht he hc h with ⟨hcs, hx⟩ | ⟨a, len, cap, zs, hcs, _, hl, hm, hz, hx, hcell, hwz⟩
  · simp at hcs
    exact ⟨none, 0, 0, fun _ => 0, hcs, ⟨Nat.le_refl _, Nat.zero_le _, fun h => absurd h (by omega)⟩, fun i hi => absurd hi (by omega), .inl ⟨by rw [hx], rfl⟩⟩
  · simp at hcs
    have hlz : len ≤ zs.length := by rw [hz]; split <;> omega
    refine ⟨some a, len, cap, fun i => zs.getD i 0, hcs, ⟨hl, hm, fun h0 => ?_⟩, fun i hi => ?_, .inr ⟨_, _, by rw [hx], ?_⟩⟩
    · have h1 := hcell 0 (by omega)
      obtain ⟨b, off, rfl⟩ := plain_addr h1
      exact ⟨b, off, rfl, fun j hj => by have := hcell j (by omega); rwa [add_lit] at this⟩
    · apply hwz
      dsimp only
      rw [List.getD_eq_getElem?_getD, List.getElem?_eq_getElem (by omega)]
      exact List.getElem_mem _
    · simp [lits]; omega
end
set_option maxRecDepth 100000 in
theorem cellsI64 : Try.prog.cellsOf 3 = 1 := by kernel_rfl
set_option maxRecDepth 100000 in
theorem cellsSe : Try.prog.cellsOf 32 = 5 := by kernel_rfl
set_option maxRecDepth 100000 in
theorem cellsSl : Try.prog.cellsOf 25 = 1 := by kernel_rfl
set_option maxRecDepth 100000 in
theorem bytesI : Try.prog.bytesOf 3 = 8 := by kernel_rfl
set_option maxRecDepth 100000 in
theorem bytesSe : Try.prog.bytesOf 32 = 56 := by kernel_rfl
set_option maxRecDepth 100000 in
theorem weights_mem_all {H : Type} {P : Program} {e : TypeId} {d : DataW H} : ∀ {l : List (DataW H)}, d ∈ l → ∀ n ∈ d.weights P e, n ∈ DataW.weightsAll P e l
  | [], h, _, _ => absurd h (by simp)
  | x :: r, h, n, hn => by
    simp only [DataW.weightsAll, List.mem_append]
    rcases List.mem_cons.1 h with rfl | h
    · exact .inl hn
    · exact .inr (weights_mem_all h n hn)
set_option maxRecDepth 100000 in
theorem held_size {H : Type} {d0 d2 : DataW H} {elems spare : List (DataW H)} (hsz : (DataW.weightsEach Try.prog [23, 24, 25] [d0, .slice elems spare, d2]).all (· ≤ reachBytes) = true) {x0 x1 x2 x3 x4 : DataW H} (hm : DataW.agg [x0, x1, x2, x3, x4] ∈ elems) {n : Nat} (h : (x4 = .nil ∧ n = 0) ∨ ∃ el rest, x4 = .slice el rest ∧ el.length = n) : n ≤ 17592186043904 := by
  rcases h with ⟨_, e⟩ | ⟨el, rest, rfl, e⟩
  · omega
  · have h1 : (el.length + rest.length) * Try.prog.bytesOf 3 ∈ (DataW.slice el rest : DataW H).weights Try.prog 25 := by simp [DataW.weights, Try.underlying25]
    have h2 : (el.length + rest.length) * Try.prog.bytesOf 3 ∈ (DataW.agg [x0, x1, x2, x3, .slice el rest] : DataW H).weights Try.prog 32 := by
      simp only [DataW.weights, Try.underlying32]
      exact DataW.weights_mem_each (j := 4) (t := 25) rfl rfl _ h1
    have h3 : (el.length + rest.length) * Try.prog.bytesOf 3 ∈ (DataW.slice elems spare : DataW H).weights Try.prog 24 := by
      simp only [DataW.weights, Try.underlying24]
      exact List.mem_cons_of_mem _ (List.mem_append.2 (.inl (weights_mem_all hm _ h2)))
    have h4 := of_decide_eq_true (List.all_eq_true.1 hsz _ (DataW.weights_mem_each (j := 1) rfl rfl _ h3))
    rw [bytesI] at h4
    simp only [reachBytes] at h4
    omega
set_option maxRecDepth 100000 in
theorem picks_size {H : Type} {d0 d1 d2 : DataW H} (hsz : (DataW.weightsEach Try.prog [23, 24, 25] [d0, d1, d2]).all (· ≤ reachBytes) = true) {n : Nat} (h : (d2 = .nil ∧ n = 0) ∨ ∃ el rest, d2 = .slice el rest ∧ el.length = n) : n ≤ 17592186043904 := by
  rcases h with ⟨_, e⟩ | ⟨el, rest, rfl, e⟩
  · omega
  · have hlen := sized_slice hsz (j := 2) rfl rfl Try.underlying25
    rw [bytesI] at hlen
    simp only [reachBytes] at hlen
    omega
set_option maxRecDepth 100000 in
theorem open_seats {H : Type} {enc : TypeId × Value → H} {W : World} {base : Nat} {sp : Nat → Bool} {held : Bool} {r : Reach} {b0 : Nat} {v1 : Value} {d0 d1 d2 : DataW H} {ps1 : List MemPlace}
    (hval1 : Value.okWide Try.prog W r b0 24 v1) (h1 : DataW.Trod enc Try.prog W base sp held 24 v1 d1 ps1)
    (hsz : (DataW.weightsEach Try.prog [23, 24, 25] [d0, d1, d2]).all (· ≤ reachBytes) = true) :
    ∃ ao n cap S, v1 = .slice ao n cap ∧ SeA W ao n cap S ∧ n * 56 ≤ 140737488351232 ∧ ∀ i, i < n → (S i).hn ≤ 17592186043904 := by
  obtain ⟨a2, l2, c2, rfl⟩ := okWide_slice Try.underlying24 hval1
  obtain ⟨fuel, h1⟩ := h1
  have h1 : DataW.trod enc Try.prog W base sp held fuel 24 [.slice a2 l2 c2] = some (d1, ps1) := h1
  rcases open_slice Try.underlying24 h1 with ⟨hcs, hx⟩ | ⟨a, len, cap, m, n, D, Pl, hcs, hb, hl, hm, hmm, hx, hel⟩
  · simp at hcs
    obtain ⟨rfl, rfl, rfl⟩ := hcs
    exact ⟨none, 0, 0, fun _ => seZ, rfl, ⟨⟨Nat.le_refl _, Nat.zero_le _, fun h => absurd h (by omega)⟩, fun i hi => absurd hi (by omega)⟩, by omega, fun i hi => absurd hi (by omega)⟩
  · simp at hcs
    obtain ⟨rfl, rfl, rfl⟩ := hcs
    have hlm : l2 ≤ m := by rw [hmm]; split <;> omega
    have hd : d1 = .slice ((List.range l2).map D) ((List.range (m - l2)).map fun j => D (l2 + j)) := congrArg Prod.fst hx
    subst hd
    have key : ∀ i, ∃ s : Se, i < l2 → W.cell? (a.add (i * 5 + 0)) = some (.int .i64 s.id) ∧ W.cell? (a.add (i * 5 + 1)) = some (.int .i64 s.kn) ∧ W.cell? (a.add (i * 5 + 2)) = some (.int .i64 s.ca) ∧ W.cell? (a.add (i * 5 + 3)) = some (.int .i64 s.wa) ∧ W.cell? (a.add (i * 5 + 4)) = some (.slice s.ho s.hn s.hc) ∧ RdA W s.ho 1 s.hn s.hc (fun j => .int .i64 (s.H j)) ∧ s.hn ≤ 17592186043904 := by
      intro i
      by_cases hi : i < l2
      · obtain ⟨cs', q1, q2⟩ := hel i (by omega)
        rw [cellsSe] at q1
        obtain ⟨_, hlen, hcell⟩ := World.cells?_some q1
        obtain ⟨xs, k, hk, hxy, _, hxl, hf⟩ := DataW.trod_struct Try.underlying32 q2
        match xs, hxl, cs', hlen with
        | [y0, y1, y2, y3, y4], _, [v0, v1, v2, v3, v4], _ =>
          have g0 := hf 0 _ rfl
          have g1 := hf 1 _ rfl
          have g2 := hf 2 _ rfl
          have g3 := hf 3 _ rfl
          have g4 := hf 4 _ rfl
          simp [cellsI64, cellsSl] at g0 g1 g2 g3 g4
          obtain ⟨n0, e0, _, _⟩ := DataW.trod_int Try.underlying3 g0
          obtain ⟨n1, e1, _, _⟩ := DataW.trod_int Try.underlying3 g1
          obtain ⟨n2, e2, _, _⟩ := DataW.trod_int Try.underlying3 g2
          obtain ⟨n3, e3, _, _⟩ := DataW.trod_int Try.underlying3 g3
          obtain ⟨ao, kn, kc, f, e4, hr4, _, hs4⟩ := open_row Try.underlying25 Try.underlying3 cellsI64 g4
          simp only [List.cons.injEq, and_true] at e0 e1 e2 e3
          subst e0 e1 e2 e3 e4
          have c0 := hcell 0 (by omega)
          have c1 := hcell 1 (by omega)
          have c2 := hcell 2 (by omega)
          have c3 := hcell 3 (by omega)
          have c4 := hcell 4 (by omega)
          rw [add_add] at c0 c1 c2 c3 c4
          simp only [Prod.mk.injEq] at hxy
          refine ⟨⟨n0, n1, n2, n3, ao, kn, kc, f⟩, fun _ => ⟨by simpa using c0, by simpa using c1, by simpa using c2, by simpa using c3, by simpa using c4, hr4, ?_⟩⟩
          exact held_size hsz (List.mem_map.2 ⟨i, List.mem_range.2 hi, by simpa using hxy.1⟩) hs4
      · exact ⟨seZ, fun e => absurd e hi⟩
    obtain ⟨Y, hY⟩ := Classical.axiomOfChoice key
    have hlen := sized_slice hsz (j := 1) rfl rfl Try.underlying24
    rw [bytesSe] at hlen
    simp only [reachBytes, List.length_map, List.length_range] at hlen
    refine ⟨_, _, _, Y, rfl, ⟨⟨hl, hm, fun h0 => ?_⟩, fun i hi => (hY i hi).2.2.2.2.2.1⟩, by omega, fun i hi => (hY i hi).2.2.2.2.2.2⟩
    obtain ⟨b, off, rfl⟩ := plain_addr (show W.cell? (a.add 0) = _ from by simpa using (hY 0 (by omega)).1)
    refine ⟨b, off, rfl, fun j hj => ?_⟩
    have hh := hY (j / 5) (by omega)
    rw [← add_lit]
    have hj5 : j % 5 = 0 ∨ j % 5 = 1 ∨ j % 5 = 2 ∨ j % 5 = 3 ∨ j % 5 = 4 := by omega
    unfold seF seC
    rcases hj5 with e | e | e | e | e
    · rw [e, if_pos rfl]; have := hh.1; rwa [show j / 5 * 5 + 0 = j by omega] at this
    · rw [e, if_neg (by omega), if_pos rfl]; have := hh.2.1; rwa [show j / 5 * 5 + 1 = j by omega] at this
    · rw [e, if_neg (by omega), if_neg (by omega), if_pos rfl]; have := hh.2.2.1; rwa [show j / 5 * 5 + 2 = j by omega] at this
    · rw [e, if_neg (by omega), if_neg (by omega), if_neg (by omega), if_pos rfl]; have := hh.2.2.2.1; rwa [show j / 5 * 5 + 3 = j by omega] at this
    · rw [e, if_neg (by omega), if_neg (by omega), if_neg (by omega), if_neg (by omega)]; have := hh.2.2.2.2.1; rwa [show j / 5 * 5 + 4 = j by omega] at this
set_option maxRecDepth 100000 in
theorem open_picks {H : Type} {enc : TypeId × Value → H} {W : World} {base : Nat} {sp : Nat → Bool} {held : Bool} {r : Reach} {b0 : Nat} {v : Value} {d : DataW H} {ps : List MemPlace}
    (hval : Value.okWide Try.prog W r b0 25 v) (h : DataW.Trod enc Try.prog W base sp held 25 v d ps) :
    ∃ (ao : Option Addr) (n cap : Nat) (P : Nat → Int), v = .slice ao n cap ∧ RdA W ao 1 n cap (fun i => .int .i64 (P i)) ∧ ((d = .nil ∧ n = 0) ∨ ∃ el rest, d = .slice el rest ∧ el.length = n) := by
  obtain ⟨a2, l2, c2, rfl⟩ := okWide_slice Try.underlying25 hval
  obtain ⟨fuel, h⟩ := h
  have h : DataW.trod enc Try.prog W base sp held fuel 25 [.slice a2 l2 c2] = some (d, ps) := h
  obtain ⟨ao, n, cap, f, e, hr, _, hs⟩ := open_row Try.underlying25 Try.underlying3 cellsI64 h
  exact ⟨ao, n, cap, f, e, hr, hs⟩
end Go.Proofs.Ytdceahebkohbjab
