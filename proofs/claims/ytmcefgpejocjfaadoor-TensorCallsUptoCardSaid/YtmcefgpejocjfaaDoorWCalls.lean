import Derived.Test.YtmcefgpejocjfaaDoorLCalls
import Derived.Test.YtmcefgpejocjfaaDoorOpen
namespace Go.Proofs.YtmcefgpejocjfaaDoor
open Go.ChangeShapes Go.WideShapes Go.ChangeAt Go.RowKit Go.Deep
/-! The law TensorCalls, from what came in. -/
theorem bulk_one {H : Type} (d : DataW H) : 1 ≤ Rows.uptoBulk d := by
  cases d with
  | lit l => cases l <;> simp [Rows.uptoBulk]
  | nil => simp [Rows.uptoBulk]
  | ptr d => simp [Rows.uptoBulk]
  | slice a b => simp [Rows.uptoBulk]
  | agg a => simp [Rows.uptoBulk]
  | iface t d => simp [Rows.uptoBulk]
  | map e => simp [Rows.uptoBulk]
  | held h => simp [Rows.uptoBulk]
theorem bulk_mem {H : Type} {d : DataW H} : ∀ {l : List (DataW H)}, d ∈ l → Rows.uptoBulk d ≤ Rows.uptoBulkAll l
  | [], h => absurd h (by simp)
  | x :: r, h => by
    simp only [Rows.uptoBulkAll]
    rcases List.mem_cons.1 h with e | e
    · subst e; omega
    · have := bulk_mem e; omega
theorem bulk_length {H : Type} : ∀ (l : List (DataW H)), l.length ≤ Rows.uptoBulkAll l
  | [] => by simp [Rows.uptoBulkAll]
  | x :: r => by
    have h1 := bulk_one x
    have h2 := bulk_length r
    simp only [Rows.uptoBulkAll, List.length_cons]; omega
theorem bulk_row {H : Type} {d : DataW H} {n : Nat} (h : (d = .nil ∧ n = 0) ∨ ∃ el rest, d = .slice el rest ∧ el.length = n) : n ≤ Rows.uptoBulk d := by
  rcases h with ⟨_, e⟩ | ⟨el, rest, rfl, e⟩
  · omega
  · have := bulk_length el
    simp only [Rows.uptoBulk]; omega
theorem ten_parts {α : Type} {l : List α} (h : l.length = 10) : ∃ c0 c1 c2 c3 c4 c5 c6 c7 c8 c9, l = [c0, c1, c2, c3, c4, c5, c6, c7, c8, c9] :=
  match l, h with
  | [c0, c1, c2, c3, c4, c5, c6, c7, c8, c9], _ => ⟨c0, c1, c2, c3, c4, c5, c6, c7, c8, c9, rfl⟩
theorem eight_parts {α : Type} {l : List α} (h : l.length = 8) : ∃ c0 c1 c2 c3 c4 c5 c6 c7, l = [c0, c1, c2, c3, c4, c5, c6, c7] :=
  match l, h with
  | [c0, c1, c2, c3, c4, c5, c6, c7], _ => ⟨c0, c1, c2, c3, c4, c5, c6, c7, rfl⟩
theorem trip_parts {α : Type} {l : List α} (h : l.length = 3) : ∃ c0 c1 c2, l = [c0, c1, c2] :=
  match l, h with
  | [c0, c1, c2], _ => ⟨c0, c1, c2, rfl⟩
theorem nOp : Tryd.prog.cellsOf 33 = 10 := by kernel_rfl
theorem nMat : Tryd.prog.cellsOf 28 = 3 := by kernel_rfl
theorem nI : Tryd.prog.cellsOf 3 = 1 := by kernel_rfl
theorem nI8 : Tryd.prog.cellsOf 48 = 1 := by kernel_rfl
theorem nI64 : Tryd.prog.cellsOf 2 = 1 := by kernel_rfl
theorem nS8 : Tryd.prog.cellsOf 26 = 1 := by kernel_rfl
theorem nS64 : Tryd.prog.cellsOf 29 = 1 := by kernel_rfl
theorem nSS8 : Tryd.prog.cellsOf 30 = 1 := by kernel_rfl
theorem nST : Tryd.prog.cellsOf 31 = 1 := by kernel_rfl
theorem nT : Tryd.prog.cellsOf 79 = 2 := by kernel_rfl
section
variable {H : Type} {enc : TypeId × Value → H} {W : World} {base : Nat} {held : Bool}
theorem op_open {fuel : Nat} {cs : List Value} {x : DataW H × List MemPlace} (h : DataW.trod enc Tryd.prog W base (fun _ => true) held fuel 33 cs = some x) (hb : Rows.uptoBulk x.1 ≤ 1048576) :
    ∃ o : OpD, cs = [.int .i64 o.kind, .int .i64 o.R, .int .i64 o.C, .slice o.dO o.nD o.cD, .slice o.aO o.nA o.cA, .slice o.bO o.nB o.cB, .slice o.xO o.nX o.cX, .slice o.vO o.nV o.cV, .slice o.tO o.nT o.cT, .int .i64 o.N] ∧ OpR W o := by
  obtain ⟨ys, n, rfl, rfl, hl, hlen, hf⟩ := DataW.trod_struct Tryd.underlying33 h
  have e0 : DataW.trod enc Tryd.prog W base (fun _ => true) held n 3 ((cs.drop 0).take (Tryd.prog.cellsOf 3)) = ys[0]? := hf 0 _ rfl
  have e1 : DataW.trod enc Tryd.prog W base (fun _ => true) held n 28 ((cs.drop 1).take (Tryd.prog.cellsOf 28)) = ys[1]? := hf 1 _ rfl
  have e2 : DataW.trod enc Tryd.prog W base (fun _ => true) held n 26 ((cs.drop 4).take (Tryd.prog.cellsOf 26)) = ys[2]? := hf 2 _ rfl
  have e3 : DataW.trod enc Tryd.prog W base (fun _ => true) held n 26 ((cs.drop 5).take (Tryd.prog.cellsOf 26)) = ys[3]? := hf 3 _ rfl
  have e4 : DataW.trod enc Tryd.prog W base (fun _ => true) held n 29 ((cs.drop 6).take (Tryd.prog.cellsOf 29)) = ys[4]? := hf 4 _ rfl
  have e5 : DataW.trod enc Tryd.prog W base (fun _ => true) held n 30 ((cs.drop 7).take (Tryd.prog.cellsOf 30)) = ys[5]? := hf 5 _ rfl
  have e6 : DataW.trod enc Tryd.prog W base (fun _ => true) held n 31 ((cs.drop 8).take (Tryd.prog.cellsOf 31)) = ys[6]? := hf 6 _ rfl
  have e7 : DataW.trod enc Tryd.prog W base (fun _ => true) held n 3 ((cs.drop 9).take (Tryd.prog.cellsOf 3)) = ys[7]? := hf 7 _ rfl
  rw [nOp] at hl
  obtain ⟨c0, c1, c2, c3, c4, c5, c6, c7, c8, c9, rfl⟩ := ten_parts hl
  obtain ⟨y0, y1, y2, y3, y4, y5, y6, y7, rfl⟩ := eight_parts (show ys.length = 8 from hlen)
  rw [nI] at e0 e7
  rw [nMat] at e1
  rw [nS8] at e2 e3
  rw [nS64] at e4
  rw [nSS8] at e5
  rw [nST] at e6
  obtain ⟨kd, q0, _, _⟩ := DataW.trod_int (cs := [c0]) Tryd.underlying3 (show DataW.trod enc Tryd.prog W base (fun _ => true) held n 3 [c0] = some y0 from e0)
  obtain ⟨N, q7, _, _⟩ := DataW.trod_int (cs := [c9]) Tryd.underlying3 (show DataW.trod enc Tryd.prog W base (fun _ => true) held n 3 [c9] = some y7 from e7)
  have e1' : DataW.trod enc Tryd.prog W base (fun _ => true) held n 28 [c1, c2, c3] = some y1 := e1
  obtain ⟨zs, m, hnm, hy1, hml, hmlen, hmf⟩ := DataW.trod_struct Tryd.underlying28 e1'
  have g0 : DataW.trod enc Tryd.prog W base (fun _ => true) held m 3 (([c1, c2, c3].drop 0).take (Tryd.prog.cellsOf 3)) = zs[0]? := hmf 0 _ rfl
  have g1 : DataW.trod enc Tryd.prog W base (fun _ => true) held m 3 (([c1, c2, c3].drop 1).take (Tryd.prog.cellsOf 3)) = zs[1]? := hmf 1 _ rfl
  have g2 : DataW.trod enc Tryd.prog W base (fun _ => true) held m 26 (([c1, c2, c3].drop 2).take (Tryd.prog.cellsOf 26)) = zs[2]? := hmf 2 _ rfl
  obtain ⟨z0, z1, z2, rfl⟩ := trip_parts (show zs.length = 3 from hmlen)
  rw [nI] at g0 g1
  rw [nS8] at g2
  obtain ⟨R, r0, _, _⟩ := DataW.trod_int (cs := [c1]) Tryd.underlying3 (show DataW.trod enc Tryd.prog W base (fun _ => true) held m 3 [c1] = some z0 from g0)
  obtain ⟨C, r1, _, _⟩ := DataW.trod_int (cs := [c2]) Tryd.underlying3 (show DataW.trod enc Tryd.prog W base (fun _ => true) held m 3 [c2] = some z1 from g1)
  simp at q0 q7 r0 r1
  subst q0 q7 r0 r1
  obtain ⟨dO, nD, cD, D, h3, hrD, wD, xD⟩ := open_row (v := c3) Tryd.underlying26 Tryd.underlying48 nI8 (show DataW.trod enc Tryd.prog W base (fun _ => true) held m 26 [c3] = some z2 from g2)
  obtain ⟨aO, nA, cA, A, h4, hrA, wA, xA⟩ := open_row (v := c4) Tryd.underlying26 Tryd.underlying48 nI8 (show DataW.trod enc Tryd.prog W base (fun _ => true) held n 26 [c4] = some y2 from e2)
  obtain ⟨bO, nB, cB, B, h5, hrB, wB, xB⟩ := open_row (v := c5) Tryd.underlying26 Tryd.underlying48 nI8 (show DataW.trod enc Tryd.prog W base (fun _ => true) held n 26 [c5] = some y3 from e3)
  obtain ⟨xO, nX, cX, X, h6, hrX, wX, xX⟩ := open_row (v := c6) Tryd.underlying29 Tryd.underlying2 nI64 (show DataW.trod enc Tryd.prog W base (fun _ => true) held n 29 [c6] = some y4 from e4)
  obtain ⟨vO, nV, cV, Va, Vl, Vk, Vx, h7, hrV, wV, xV⟩ := open_rows (v := c7) Tryd.underlying30 Tryd.underlying26 Tryd.underlying48 nS8 nI8 (show DataW.trod enc Tryd.prog W base (fun _ => true) held n 30 [c7] = some y5 from e5)
  obtain ⟨tO, nT', cT, Tc, Ts, h8, hrT, wT, xT⟩ := open_turns (v := c8) Tryd.underlying31 Tryd.underlying79 nT rfl rfl rfl rfl Tryd.underlying2 nI64 (show DataW.trod enc Tryd.prog W base (fun _ => true) held n 31 [c8] = some y6 from e6)
  subst h3 h4 h5 h6 h7 h8
  have hb' : Rows.uptoBulkAll [y0.1, y1.1, y2.1, y3.1, y4.1, y5.1, y6.1, y7.1] + 1 ≤ 1048576 := by simpa [Rows.uptoBulk] using hb
  have hy1' : y1.1 = .agg [z0.1, z1.1, z2.1] := by rw [hy1]; rfl
  have b1 : Rows.uptoBulk y1.1 ≤ 1048576 := by have := bulk_mem (d := y1.1) (l := [y0.1, y1.1, y2.1, y3.1, y4.1, y5.1, y6.1, y7.1]) (by simp); omega
  have bz : Rows.uptoBulk z2.1 ≤ 1048576 := by
    rw [hy1'] at b1
    have h1 := bulk_mem (d := z2.1) (l := [z0.1, z1.1, z2.1]) (by simp)
    simp only [Rows.uptoBulk] at b1
    omega
  have b2 : Rows.uptoBulk y2.1 ≤ 1048576 := by have := bulk_mem (d := y2.1) (l := [y0.1, y1.1, y2.1, y3.1, y4.1, y5.1, y6.1, y7.1]) (by simp); omega
  have b3 : Rows.uptoBulk y3.1 ≤ 1048576 := by have := bulk_mem (d := y3.1) (l := [y0.1, y1.1, y2.1, y3.1, y4.1, y5.1, y6.1, y7.1]) (by simp); omega
  have b4 : Rows.uptoBulk y4.1 ≤ 1048576 := by have := bulk_mem (d := y4.1) (l := [y0.1, y1.1, y2.1, y3.1, y4.1, y5.1, y6.1, y7.1]) (by simp); omega
  have b5 : Rows.uptoBulk y5.1 ≤ 1048576 := by have := bulk_mem (d := y5.1) (l := [y0.1, y1.1, y2.1, y3.1, y4.1, y5.1, y6.1, y7.1]) (by simp); omega
  have b6 : Rows.uptoBulk y6.1 ≤ 1048576 := by have := bulk_mem (d := y6.1) (l := [y0.1, y1.1, y2.1, y3.1, y4.1, y5.1, y6.1, y7.1]) (by simp); omega
  have hV5 : nV ≤ 1048576 ∧ ∀ i, i < nV → Vl i ≤ 1048576 := by
    rcases xV with ⟨_, e⟩ | ⟨el, rest, e, hl, hrow⟩
    · exact ⟨by omega, fun i hi => by omega⟩
    · rw [e] at b5
      simp only [Rows.uptoBulk] at b5
      have h1 := bulk_length el
      refine ⟨by omega, fun i hi => ?_⟩
      rcases hrow i hi with h0 | ⟨el', rest', hm, hl'⟩
      · omega
      · have h2 := bulk_mem hm
        have h3 := bulk_length el'
        simp only [Rows.uptoBulk] at h2
        omega
  refine ⟨⟨kd, R, C, N, dO, nD, cD, D, aO, nA, cA, A, bO, nB, cB, B, xO, nX, cX, X, vO, nV, cV, Va, Vl, Vk, Vx, tO, nT', cT, Tc, Ts⟩, rfl, ?_⟩
  exact ⟨hrD, hrA, hrB, hrX, hrV, hrT, fun i hi => wf_i8 (wD i hi), fun i hi => wf_i8 (wA i hi), fun i hi => wf_i8 (wB i hi), fun i hi => wf_i64 (wX i hi), fun i j hi hj => wf_i8 (wV i j hi hj),
    Nat.le_trans (bulk_row xD) bz, Nat.le_trans (bulk_row xA) b2, Nat.le_trans (bulk_row xB) b3, Nat.le_trans (bulk_row xX) b4, hV5.1, Nat.le_trans (bulk_row xT) b6, hV5.2⟩
end
end Go.Proofs.YtmcefgpejocjfaaDoor
