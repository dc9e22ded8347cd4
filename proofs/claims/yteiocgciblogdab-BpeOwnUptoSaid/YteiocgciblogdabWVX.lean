import Derived.Test.YteiocgciblogdabVoc
import Derived.WalkKit
import Derived.ProofKit
import Derived.OpenShut
import Derived.SizedLaws
import Derived.Deep.SlicePairs
import Derived.Deep.Matrix
import Derived.Test.YteiocgciblogdabVOw
namespace Go.Proofs.Yteiocgciblogdab
open Go.ChangeShapes Go.WideShapes Go.ChangeAt Go.RowKit Go.Deep
/-! Lists that came in: what is read of them. -/
theorem add_lit (b off j : Nat) : (⟨b, off, none⟩ : Addr).add j = ⟨b, off + j, none⟩ := by unfold Addr.add; split <;> simp_all
theorem plain_addr {w : World} {a : Addr} {v : Value} (h : w.cell? (a.add 0) = some v) : ∃ b off, a = ⟨b, off, none⟩ := by
  obtain ⟨b, off, sp⟩ := a
  cases sp with
  | none => exact ⟨b, off, rfl⟩
  | some x =>
    have e : (⟨b, off, some x⟩ : Addr).add 0 = ⟨b, off, some x⟩ := by unfold Addr.add; simp
    rw [e] at h
    unfold World.cell? at h
    split at h <;> simp at h
section
variable {H : Type} {enc : TypeId × Value → H} {P : Program} {w : World} {base : Nat} {sp : Nat → Bool} {held : Bool}
theorem open_row {t e : TypeId} {k : IntKind} {fuel : Nat} {v : Value} {x : DataW H × List MemPlace} (ht : P.underlying t = some (.slice e)) (he : P.underlying e = some (.int k)) (hc : P.cellsOf e = 1)
    (h : DataW.trod enc P w base sp held fuel t [v] = some x) :
    ∃ (ao : Option Addr) (n cap : Nat) (f : Nat → Int), v = .slice ao n cap ∧ RdA w ao 1 n cap (fun i => .int k (f i)) ∧ (∀ i, i < n → (Lit.int k (f i)).wf = true) ∧ ((x.1 = .nil ∧ n = 0) ∨ ∃ el rest, x.1 = .slice el rest ∧ el.length = n) := by
  rcases open_ints ht he hc h with ⟨hcs, hx⟩ | ⟨a, len, cap, zs, hcs, _, hl, hm, hz, hx, hcell, hwz⟩
  · simp at hcs
    exact ⟨none, 0, 0, fun _ => 0, hcs, ⟨Nat.le_refl _, Nat.zero_le _, fun h => absurd h (by omega)⟩, fun i hi => absurd hi (by omega), .inl ⟨by rw [hx], rfl⟩⟩
  · simp at hcs
    have hlz : len ≤ zs.length := by rw [hz]; split <;> omega
    refine ⟨some a, len, cap, fun i => zs.getD i 0, hcs, ⟨hl, hm, fun h0 => ?_⟩, fun i hi => ?_, .inr ⟨_, _, by rw [hx], ?_⟩⟩
    · have h1 := hcell 0 (by omega)
      obtain ⟨b, off, rfl⟩ := plain_addr h1
      exact ⟨b, off, rfl, fun j hj => by have := hcell j (by omega); rwa [add_lit] at this⟩
    · apply hwz
      dsimp only
      rw [List.getD_eq_getElem?_getD, List.getElem?_eq_getElem (by omega)]
      exact List.getElem_mem _
    · simp [lits]; omega
theorem open_apairs {t e q : TypeId} {fuel : Nat} {v : Value} {x : DataW H × List MemPlace} (ht : P.underlying t = some (.slice e)) (he : P.underlying e = some (.array 2 q))
    (ce : P.cellsOf e = 2) (hq : P.underlying q = some (.int .i64)) (cq : P.cellsOf q = 1) (h : DataW.trod enc P w base sp held fuel t [v] = some x) :
    ∃ (ao : Option Addr) (n cap : Nat) (C S : Nat → Int), v = .slice ao n cap ∧ RdA w ao 2 n cap (tcs C S) ∧ (∀ i, i < n → (Lit.int .i64 (C i)).wf = true ∧ (Lit.int .i64 (S i)).wf = true) ∧ ((x.1 = .nil ∧ n = 0) ∨ ∃ el rest, x.1 = .slice el rest ∧ el.length = n) := by
  rcases open_slice ht h with ⟨hcs, hx⟩ | ⟨a, len, cap, m, n, D, Pl, hcs, _, hl, hm, hmm, hx, hcell⟩
  · simp at hcs
    exact ⟨none, 0, 0, fun _ => 0, fun _ => 0, hcs, ⟨Nat.le_refl _, Nat.zero_le _, fun h => absurd h (by omega)⟩, fun i hi => absurd hi (by omega), .inl ⟨by rw [hx], rfl⟩⟩
  · simp at hcs
    have hlm : len ≤ m := by rw [hmm]; split <;> omega
    have key : ∀ i, ∃ y : Int × Int, i < m → w.cell? (a.add (i * 2)) = some (.int .i64 y.1) ∧ w.cell? (a.add (i * 2 + 1)) = some (.int .i64 y.2) ∧ (Lit.int .i64 y.1).wf = true ∧ (Lit.int .i64 y.2).wf = true := by
      intro i
      by_cases hi : i < m
      · obtain ⟨cs', h1, h2⟩ := hcell i hi
        rw [ce] at h1
        obtain ⟨_, hlen, hc⟩ := World.cells?_some h1
        obtain ⟨xs, k, _, _, _, hxl, hf⟩ := DataW.trod_array he h2
        match xs, hxl, cs', hlen with
        | [y0, y1], _, [v0, v1], _ =>
          have g0 := hf 0 (by omega)
          have g1 := hf 1 (by omega)
          simp [cq] at g0 g1
          have e0 := hc 0 (by omega)
          have e1 := hc 1 (by omega)
          rw [add_add] at e0 e1
          obtain ⟨z0, q0, _, w0⟩ := DataW.trod_int hq g0
          obtain ⟨z1, q1, _, w1⟩ := DataW.trod_int hq g1
          simp at q0 q1 e0 e1
          rw [q0] at e0
          rw [q1] at e1
          exact ⟨(z0, z1), fun _ => ⟨e0, e1, w0, w1⟩⟩
      · exact ⟨(0, 0), fun h => absurd h hi⟩
    obtain ⟨f, hf⟩ := Classical.axiomOfChoice key
    refine ⟨some a, len, cap, fun i => (f i).1, fun i => (f i).2, hcs, ⟨hl, hm, fun h0 => ?_⟩, fun i hi => (hf i (by omega)).2.2, .inr ⟨_, _, by rw [hx], by simp⟩⟩
    obtain ⟨b, off, rfl⟩ := plain_addr (show w.cell? (a.add 0) = _ from (hf 0 (by omega)).1)
    refine ⟨b, off, rfl, fun j hj => ?_⟩
    obtain ⟨i, rfl | rfl⟩ : ∃ i, j = i * 2 ∨ j = i * 2 + 1 := ⟨j / 2, by omega⟩
    · rw [tcs0, ← (hf i (by omega)).1, add_lit]
    · rw [tcs1, ← (hf i (by omega)).2.1, add_lit]
end
theorem nB : Try.prog.cellsOf 5 = 1 := by kernel_rfl
theorem nI : Try.prog.cellsOf 3 = 1 := by kernel_rfl
theorem nP : Try.prog.cellsOf 48 = 2 := by kernel_rfl
theorem nSB : Try.prog.cellsOf 22 = 1 := by kernel_rfl
theorem nSP : Try.prog.cellsOf 23 = 1 := by kernel_rfl
theorem nV : Try.prog.cellsOf 25 = 2 := by kernel_rfl
theorem yB : Try.prog.bytesOf 5 = 1 := by kernel_rfl
theorem yP : Try.prog.bytesOf 48 = 16 := by kernel_rfl
theorem yI : Try.prog.bytesOf 3 = 8 := by kernel_rfl
theorem tVoc : ∃ f0 f1 : Field, Try.prog.underlying 25 = some (.struct #[f0, f1]) ∧ f0.type = 22 ∧ f1.type = 23 ∧ f0.offset = 0 ∧ f1.offset = 1 := ⟨_, _, Try.underlying25, rfl, rfl, rfl, rfl⟩
theorem wf_u8 {n : Int} (h : (Lit.int .u8 n).wf = true) : 0 ≤ n ∧ n ≤ 255 := by
  have hmin : IntKind.u8.min = 0 := rfl
  have hmax : IntKind.u8.max = 255 := rfl
  simp only [Lit.wf, Bool.and_eq_true, decide_eq_true_eq] at h; omega
theorem wf_i64 {n : Int} (h : (Lit.int .i64 n).wf = true) : -9223372036854775808 ≤ n ∧ n ≤ 9223372036854775807 := by
  have hmin : IntKind.i64.min = -9223372036854775808 := rfl
  have hmax : IntKind.i64.max = 9223372036854775807 := rfl
  simp only [Lit.wf, Bool.and_eq_true, decide_eq_true_eq] at h; omega
/-- What a vocabulary that came in is. -/
theorem open_voc {H : Type} {enc : TypeId × Value → H} {W : World} {base : Nat} {sp : Nat → Bool} {held : Bool} {r : Reach} {b0 : Nat} {v : Value} {x : DataW H} {ps : List MemPlace}
    (hval : Value.okWide Try.prog W r b0 25 v) (h : DataW.Trod enc Try.prog W base sp held 25 v x ps) :
    ∃ (d : VD) (bo po : Option Addr) (cb cp : Nat) (x0 x1 : DataW H), v = .agg #[.slice bo d.nb cb, .slice po d.np cp] ∧ RdA W bo 1 d.nb cb (fun i => .int .u8 (d.B i)) ∧ RdA W po 2 d.np cp (tcs d.P d.Q) ∧ (∀ i, i < d.nb → 0 ≤ d.B i ∧ d.B i ≤ 255) ∧ x = .agg [x0, x1] ∧
      ((x0 = .nil ∧ d.nb = 0) ∨ ∃ el rest, x0 = .slice el rest ∧ el.length = d.nb) ∧ ((x1 = .nil ∧ d.np = 0) ∨ ∃ el rest, x1 = .slice el rest ∧ el.length = d.np) := by
  obtain ⟨f0, f1, hu, t0, t1, o0, o1⟩ := tVoc
  obtain ⟨cs, rfl, _⟩ := okWide_struct hu hval
  obtain ⟨fuel, h⟩ := h
  obtain ⟨ys, n, rfl, hxy, hl, hlen, hf⟩ := DataW.trod_struct hu h
  have e0 := hf 0 f0 rfl
  have e1 := hf 1 f1 rfl
  rw [t0, o0, nSB] at e0
  rw [t1, o1, nSP] at e1
  rw [nV] at hl
  have hcs : ∃ c0 c1, cs = #[c0, c1] := by
    obtain ⟨l⟩ := cs
    match l, hl with
    | [c0, c1], _ => exact ⟨c0, c1, rfl⟩
  obtain ⟨c0, c1, rfl⟩ := hcs
  have hys : ∃ y0 y1, ys = [y0, y1] := by
    match ys, hlen with
    | [y0, y1], _ => exact ⟨y0, y1, rfl⟩
  obtain ⟨y0, y1, rfl⟩ := hys
  obtain ⟨bo, nb, cb, B, q0, rb, wb, sb⟩ := open_row Try.underlying22 Try.underlying5 nB (show DataW.trod enc Try.prog W base sp held n 22 [c0] = some y0 from e0)
  obtain ⟨po, np, cp, C, S, q1, rp, wp, sp'⟩ := open_apairs Try.underlying23 Try.underlying48 nP Try.underlying3 nI (show DataW.trod enc Try.prog W base sp held n 23 [c1] = some y1 from e1)
  subst q0; subst q1
  simp only [Prod.mk.injEq, List.map_cons, List.map_nil] at hxy
  exact ⟨⟨nb, np, B, C, S⟩, bo, po, cb, cp, y0.1, y1.1, rfl, rb, rp, fun i hi => wf_u8 (wb i hi), hxy.1, sb, sp'⟩
theorem sized_agg {H : Type} {P : Program} {ts : List TypeId} {ds : List (DataW H)} (h : (DataW.weightsEach P ts ds).all (· ≤ reachBytes) = true) {j i : Nat} {t e u : TypeId} {fs : Array Field} {parts elems spare : List (DataW H)}
    (ht : ts[j]? = some t) (hd : ds[j]? = some (.agg parts)) (hu : P.underlying t = some (.struct fs)) (hp : parts[i]? = some (.slice elems spare)) (hf : (fs.toList.map (·.type))[i]? = some u) (hs : P.underlying u = some (.slice e)) : (elems.length + spare.length) * P.bytesOf e ≤ reachBytes := by
  refine of_decide_eq_true (List.all_eq_true.1 h _ (DataW.weights_mem_each ht hd _ ?_))
  simp only [DataW.weights, hu]
  exact DataW.weights_mem_each hf hp _ (by simp [DataW.weights, hs])
/-- .. how long its lists are, at most -/
theorem voc_size {H : Type} {d : VD} {ts : List TypeId} {ds : List (DataW H)} {x0 x1 : DataW H} {j : Nat} (hsz : (DataW.weightsEach Try.prog ts ds).all (· ≤ reachBytes) = true) (ht : ts[j]? = some 25) (hd : ds[j]? = some (.agg [x0, x1]))
    (h0 : (x0 = .nil ∧ d.nb = 0) ∨ ∃ el rest, x0 = .slice el rest ∧ el.length = d.nb) (h1 : (x1 = .nil ∧ d.np = 0) ∨ ∃ el rest, x1 = .slice el rest ∧ el.length = d.np) : d.nb ≤ 140737488351232 ∧ d.np ≤ 8796093021952 := by
  constructor
  · rcases h0 with ⟨_, e⟩ | ⟨el, rest, rfl, e⟩
    · omega
    · have := sized_agg hsz ht hd Try.underlying25 (i := 0) rfl rfl Try.underlying22
      rw [yB] at this
      simp only [reachBytes] at this
      omega
  · rcases h1 with ⟨_, e⟩ | ⟨el, rest, rfl, e⟩
    · omega
    · have := sized_agg hsz ht hd Try.underlying25 (i := 1) rfl rfl Try.underlying23
      rw [yP] at this
      simp only [reachBytes] at this
      omega
end Go.Proofs.Yteiocgciblogdab
namespace Go.Proofs.Yteiocgciblogdab
open Go.ChangeShapes Go.WideShapes Go.ChangeAt Go.RowKit Go.Deep
/-! How long lists are, by the bulk of what came in. -/
theorem bulk_one {H : Type} (d : DataW H) : 1 ≤ Rows.uptoBulk d := by
  cases d with
  | lit l => cases l <;> simp [Rows.uptoBulk]
  | nil => simp [Rows.uptoBulk]
  | ptr d => simp [Rows.uptoBulk]
  | slice a b => simp [Rows.uptoBulk]
  | agg a => simp [Rows.uptoBulk]
  | iface t d => simp [Rows.uptoBulk]
  | map e => simp [Rows.uptoBulk]
  | held h => simp [Rows.uptoBulk]
theorem bulk_mem {H : Type} {d : DataW H} : ∀ {l : List (DataW H)}, d ∈ l → Rows.uptoBulk d ≤ Rows.uptoBulkAll l
  | [], h => absurd h (by simp)
  | x :: r, h => by
    simp only [Rows.uptoBulkAll]
    rcases List.mem_cons.1 h with e | e
    · subst e; omega
    · have := bulk_mem e; omega
theorem bulk_length {H : Type} : ∀ (l : List (DataW H)), l.length ≤ Rows.uptoBulkAll l
  | [] => by simp [Rows.uptoBulkAll]
  | x :: r => by
    have h1 := bulk_one x
    have h2 := bulk_length r
    simp only [Rows.uptoBulkAll, List.length_cons]; omega
theorem bulk_row {H : Type} {d : DataW H} {n : Nat} (h : (d = .nil ∧ n = 0) ∨ ∃ el rest, d = .slice el rest ∧ el.length = n) : n ≤ Rows.uptoBulk d := by
  rcases h with ⟨_, e⟩ | ⟨el, rest, rfl, e⟩
  · omega
  · have := bulk_length el
    simp only [Rows.uptoBulk]; omega
theorem voc_bulk {H : Type} {d : VD} {l : List (DataW H)} {x0 x1 : DataW H} (hb : Rows.uptoBulkAll l ≤ 1048576) (hm : DataW.agg [x0, x1] ∈ l)
    (h0 : (x0 = .nil ∧ d.nb = 0) ∨ ∃ el rest, x0 = .slice el rest ∧ el.length = d.nb) (h1 : (x1 = .nil ∧ d.np = 0) ∨ ∃ el rest, x1 = .slice el rest ∧ el.length = d.np) : d.nb ≤ 1048576 ∧ d.np ≤ 1048576 := by
  have h := bulk_mem hm
  have b0 := bulk_row h0
  have b1 := bulk_row h1
  simp only [Rows.uptoBulk, Rows.uptoBulkAll] at h
  omega
theorem row_bulk {H : Type} {l : List (DataW H)} {x : DataW H} {n : Nat} (hb : Rows.uptoBulkAll l ≤ 1048576) (hm : x ∈ l) (h : (x = .nil ∧ n = 0) ∨ ∃ el rest, x = .slice el rest ∧ el.length = n) : n ≤ 1048576 :=
  Nat.le_trans (Nat.le_trans (bulk_row h) (bulk_mem hm)) hb
/-- a list of bytes, a list of ints, that came in -/
theorem open_bytes {H : Type} {enc : TypeId × Value → H} {W : World} {base : Nat} {sp : Nat → Bool} {held : Bool} {r : Reach} {b0 : Nat} {v : Value} {x : DataW H} {ps : List MemPlace}
    (hval : Value.okWide Try.prog W r b0 22 v) (h : DataW.Trod enc Try.prog W base sp held 22 v x ps) :
    ∃ (ao : Option Addr) (n cap : Nat) (f : Nat → Int), v = .slice ao n cap ∧ RdA W ao 1 n cap (fun i => .int .u8 (f i)) ∧ (∀ i, i < n → 0 ≤ f i ∧ f i ≤ 255) ∧ ((x = .nil ∧ n = 0) ∨ ∃ el rest, x = .slice el rest ∧ el.length = n) := by
  obtain ⟨a0, l0, c0, rfl⟩ := okWide_slice Try.underlying22 hval
  obtain ⟨fuel, h⟩ := h
  obtain ⟨ao, n, cap, f, e, hr, hw, hs⟩ := open_row Try.underlying22 Try.underlying5 nB h
  exact ⟨ao, n, cap, f, e, hr, fun i hi => wf_u8 (hw i hi), hs⟩
theorem open_ints' {H : Type} {enc : TypeId × Value → H} {W : World} {base : Nat} {sp : Nat → Bool} {held : Bool} {r : Reach} {b0 : Nat} {v : Value} {x : DataW H} {ps : List MemPlace}
    (hval : Value.okWide Try.prog W r b0 28 v) (h : DataW.Trod enc Try.prog W base sp held 28 v x ps) :
    ∃ (ao : Option Addr) (n cap : Nat) (f : Nat → Int), v = .slice ao n cap ∧ RdA W ao 1 n cap (fun i => .int .i64 (f i)) ∧ ((x = .nil ∧ n = 0) ∨ ∃ el rest, x = .slice el rest ∧ el.length = n) := by
  obtain ⟨a0, l0, c0, rfl⟩ := okWide_slice Try.underlying28 hval
  obtain ⟨fuel, h⟩ := h
  obtain ⟨ao, n, cap, f, e, hr, _, hs⟩ := open_row Try.underlying28 Try.underlying3 nI h
  exact ⟨ao, n, cap, f, e, hr, hs⟩
end Go.Proofs.Yteiocgciblogdab
namespace Go.Proofs.Yteiocgciblogdab
open Go.ChangeShapes Go.WideShapes Go.ChangeAt Go.RowKit
/-! The law BpeOwn, from what came in. -/
theorem bpeOwn_walk {H : Type} {enc : TypeId × Value → H} {base : Nat} {sp : Nat → Bool} {held : Bool} {r : Reach} {b0 : Nat} {v0 v1 : Value} {d0 d1 : DataW H} {ps0 ps1 : List MemPlace} (W : World)
    (hval0 : Value.okWide Try.prog W r b0 25 v0) (h0 : DataW.Trod enc Try.prog W base sp held 25 v0 d0 ps0)
    (hval1 : Value.okWide Try.prog W r b0 22 v1) (h1 : DataW.Trod enc Try.prog W base sp held 22 v1 d1 ps1)
    (hb : Rows.uptoBulkAll [d0, d1] ≤ 1048576) :
    Calls Try.prog 4 #[v0, v1] W fun e w' => e = .returned (.bool true) ∧ Below W.heap.size W w' := by
  obtain ⟨d, bo, po, cb, cp, x0, x1, rfl, rb, rp, hB, rfl, s0, s1⟩ := open_voc hval0 h0
  obtain ⟨ko, n, ck, X, rfl, rk, hX, s2⟩ := open_bytes hval1 h1
  obtain ⟨n1, n2⟩ := voc_bulk hb (by simp) s0 s1
  have n3 := row_bulk hb (by simp) s2
  obtain ⟨x, l, hx⟩ := d.encOut_some X n
  rcases hx with ⟨hR, e1, e2⟩ | ⟨hR, he, e1, e2⟩ | ⟨hR, hk, e1, e2⟩
  · exact own_bad rb rp hB rk hX (by omega) (by omega) n3 50 (.inl ⟨hR, rfl, rfl⟩) (by decide)
  · exact own_bad rb rp hB rk hX (by omega) (by omega) n3 51 (.inr (.inl ⟨hR, he, rfl, rfl⟩)) (by decide)
  · exact own_ok rb rp hB rk hX (by omega) (by omega) n3 hR hk
end Go.Proofs.Yteiocgciblogdab
