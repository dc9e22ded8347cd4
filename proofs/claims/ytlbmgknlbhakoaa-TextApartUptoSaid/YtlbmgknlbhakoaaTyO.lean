import Derived.Test.YtlbmgknlbhakoaaTyE
import Derived.Test.YtlbmgknlbhakoaaTxO
import Derived.Deep.SlicePairs
namespace Go.Proofs.Ytlbmgknlbhakoaa
open Go.ChangeShapes Go.WideShapes Go.ChangeAt Go.RowKit Go.Deep
/-! Pieces that came in; the law TextApart from what came in. -/
theorem cellsPc : Try.prog.cellsOf 45 = 2 := by kernel_rfl
theorem cellsSl : Try.prog.cellsOf 27 = 1 := by kernel_rfl
theorem cellsBl : Try.prog.cellsOf 4 = 1 := by kernel_rfl
theorem bulk_one {H : Type} (d : DataW H) : 1 ≤ Rows.uptoBulk d := by
  cases d with
  | lit l => cases l <;> simp [Rows.uptoBulk]
  | nil => simp [Rows.uptoBulk]
  | ptr d => simp [Rows.uptoBulk]
  | slice a b => simp [Rows.uptoBulk]
  | agg a => simp [Rows.uptoBulk]
  | iface t d => simp [Rows.uptoBulk]
  | map e => simp [Rows.uptoBulk]
  | held h => simp [Rows.uptoBulk]
theorem bulk_mem {H : Type} {d : DataW H} : ∀ {l : List (DataW H)}, d ∈ l → Rows.uptoBulk d ≤ Rows.uptoBulkAll l
  | [], h => absurd h (by simp)
  | x :: r, h => by
    simp only [Rows.uptoBulkAll]
    rcases List.mem_cons.1 h with e | e
    · subst e; omega
    · have := bulk_mem e; omega
theorem bulk_length {H : Type} : ∀ (l : List (DataW H)), l.length ≤ Rows.uptoBulkAll l
  | [] => by simp [Rows.uptoBulkAll]
  | x :: r => by
    have h1 := bulk_one x
    have h2 := bulk_length r
    simp only [Rows.uptoBulkAll, List.length_cons]; omega
theorem bulk_row {H : Type} {d : DataW H} {n : Nat} (h : (d = .nil ∧ n = 0) ∨ ∃ el rest, d = .slice el rest ∧ el.length = n) : n ≤ Rows.uptoBulk d := by
  rcases h with ⟨_, e⟩ | ⟨el, rest, rfl, e⟩
  · omega
  · have := bulk_length el
    simp only [Rows.uptoBulk]; omega
theorem row_bulk {H : Type} {l : List (DataW H)} {x : DataW H} {n : Nat} (hb : Rows.uptoBulkAll l ≤ 1048576) (hm : x ∈ l) (h : (x = .nil ∧ n = 0) ∨ ∃ el rest, x = .slice el rest ∧ el.length = n) : n ≤ 1048576 :=
  Nat.le_trans (Nat.le_trans (bulk_row h) (bulk_mem hm)) hb
theorem cellsW : Try.prog.cellsOf 3 = 1 := by kernel_rfl
theorem bulk_app {H : Type} (x : DataW H) : ∀ (l : List (DataW H)), Rows.uptoBulkAll (l ++ [x]) = Rows.uptoBulkAll l + Rows.uptoBulk x
  | [] => by simp [Rows.uptoBulkAll]
  | y :: r => by
    have := bulk_app x r
    simp only [List.cons_append, Rows.uptoBulkAll, this]
    omega
theorem bulk_sum {H : Type} {f : Nat → Nat} {g : Nat → DataW H} : ∀ (n : Nat), (∀ i, i < n → f i ≤ Rows.uptoBulk (g i)) → sumN f n ≤ Rows.uptoBulkAll ((List.range n).map g)
  | 0, _ => Nat.zero_le _
  | n + 1, h => by
    have h1 := bulk_sum n (fun i hi => h i (by omega))
    have h2 := h n (by omega)
    rw [List.range_succ, List.map_append, List.map_cons, List.map_nil, bulk_app]
    show sumN f n + f n ≤ _
    omega
set_option maxRecDepth 100000 in
theorem open_pieces {H : Type} {enc : TypeId × Value → H} {W : World} {base : Nat} {sp : Nat → Bool} {held : Bool} {r : Reach} {b0 : Nat} {v : Value} {d : DataW H} {ps : List MemPlace}
    (hval : Value.okWide Try.prog W r b0 42 v) (h : DataW.Trod enc Try.prog W base sp held 42 v d ps) :
    ∃ (ao : Option Addr) (n cap : Nat) (On : Nat → Bool) (xo : Nat → Option Addr) (tn tk : Nat → Nat) (T : Nat → Nat → Int), v = .slice ao n cap ∧ RdA W ao 2 n cap (pcF On xo tn tk) ∧ (∀ i, i < n → RdA W (xo i) 1 (tn i) (tk i) (fun j => .int .i64 (T i j))) ∧ (∀ i, i < n → ∀ j, j < tn i → -9223372036854775808 ≤ T i j ∧ T i j ≤ 9223372036854775807) ∧ sumN tn n ≤ Rows.uptoBulk d ∧ n ≤ Rows.uptoBulk d := by
  obtain ⟨a2, l2, c2, rfl⟩ := okWide_slice Try.underlying42 hval
  obtain ⟨fuel, h1⟩ := h
  have h1 : DataW.trod enc Try.prog W base sp held fuel 42 [.slice a2 l2 c2] = some (d, ps) := h1
  rcases open_slice_pairs Try.underlying42 Try.underlying45 cellsPc rfl rfl cellsBl cellsSl h1 with ⟨hcs, hx⟩ | ⟨a, len, cap, m, n, V0, V1, D0, D1, P0, P1, hcs, _, hl, hm, hmm, hx, hcell⟩
  · simp at hcs
    obtain ⟨rfl, rfl, rfl⟩ := hcs
    exact ⟨none, 0, 0, fun _ => false, fun _ => none, fun _ => 0, fun _ => 0, fun _ _ => 0, rfl, ⟨Nat.le_refl _, Nat.zero_le _, fun h => absurd h (by omega)⟩, fun i hi => absurd hi (by omega), fun i hi => absurd hi (by omega), Nat.zero_le _, Nat.zero_le _⟩
  · simp at hcs
    obtain ⟨rfl, rfl, rfl⟩ := hcs
    have hlm : l2 ≤ m := by rw [hmm]; split <;> omega
    have hd : d = .slice ((List.range l2).map fun i => .agg [D0 i, D1 i]) ((List.range (m - l2)).map fun j => .agg [D0 (l2 + j), D1 (l2 + j)]) := congrArg Prod.fst hx
    subst hd
    have key : ∀ i, ∃ y : (Option Addr × Nat × Nat) × (Nat → Int) × Bool, i < l2 → W.cell? (a.add (i * 2)) = some (.bool y.2.2) ∧ W.cell? (a.add (i * 2 + 1)) = some (.slice y.1.1 y.1.2.1 y.1.2.2) ∧ RdA W y.1.1 1 y.1.2.1 y.1.2.2 (fun j => .int .i64 (y.2.1 j)) ∧ (∀ j, j < y.1.2.1 → -9223372036854775808 ≤ y.2.1 j ∧ y.2.1 j ≤ 9223372036854775807) ∧ y.1.2.1 ≤ Rows.uptoBulk (D1 i) := fun i => by
      by_cases hi : i < l2
      · obtain ⟨g0, g1, t0, t1⟩ := hcell i (by omega)
        obtain ⟨q, e1, _⟩ := DataW.trod_bool Try.underlying4 t0
        obtain ⟨ao, k, kc, f, e0, hr0, hw0, hs0⟩ := open_row Try.underlying27 Try.underlying3 nI t1
        simp at e1
        rw [e0] at g1
        rw [e1] at g0
        exact ⟨((ao, k, kc), f, q), fun _ => ⟨g0, g1, hr0, fun j hj => wf_i64 (hw0 j hj), bulk_row hs0⟩⟩
      · exact ⟨((none, 0, 0), fun _ => 0, false), fun e => absurd e hi⟩
    obtain ⟨Y, hY⟩ := Classical.axiomOfChoice key
    have hb1 : ∀ i, i < l2 → (Y i).1.2.1 ≤ Rows.uptoBulk (DataW.agg [D0 i, D1 i]) := fun i hi => by
      have := (hY i hi).2.2.2.2
      simp only [Rows.uptoBulk, Rows.uptoBulkAll]
      omega
    have hb2 := bulk_sum l2 hb1
    have hb3 := bulk_length ((List.range l2).map fun i => DataW.agg [D0 i, D1 i])
    simp only [List.length_map, List.length_range] at hb3
    refine ⟨some a, l2, c2, fun i => (Y i).2.2, fun i => (Y i).1.1, fun i => (Y i).1.2.1, fun i => (Y i).1.2.2, fun i => (Y i).2.1, rfl, ⟨hl, hm, fun h0 => ?_⟩, fun i hi => (hY i hi).2.2.1, fun i hi => (hY i hi).2.2.2.1, ?_, ?_⟩
    · obtain ⟨b, off, rfl⟩ := plain_addr (show W.cell? (a.add 0) = _ from (hY 0 (by omega)).1)
      refine ⟨b, off, rfl, fun j hj => ?_⟩
      obtain ⟨i, rfl | rfl⟩ : ∃ i, j = i * 2 ∨ j = i * 2 + 1 := ⟨j / 2, by omega⟩
      · rw [← add_lit, (hY i (by omega)).1]
        unfold pcF
        rw [if_pos (by omega), show i * 2 / 2 = i by omega]
      · rw [← add_lit, (hY i (by omega)).2.1]
        unfold pcF
        rw [if_neg (by omega), show (i * 2 + 1) / 2 = i by omega]
    · simp only [Rows.uptoBulk]
      omega
    · simp only [Rows.uptoBulk]
      omega
set_option maxRecDepth 100000 in
theorem textApart_walk {H : Type} {enc : TypeId × Value → H} {base : Nat} {sp : Nat → Bool} {held : Bool} {r : Reach} {b0 : Nat} {v0 v1 v2 v3 : Value} {d0 d1 d2 d3 : DataW H} {ps0 ps1 ps2 ps3 : List MemPlace} (W : World)
    (hval0 : Value.okWide Try.prog W r b0 25 v0) (h0 : DataW.Trod enc Try.prog W base sp held 25 v0 d0 ps0)
    (hval1 : Value.okWide Try.prog W r b0 26 v1) (h1 : DataW.Trod enc Try.prog W base sp held 26 v1 d1 ps1)
    (hval2 : Value.okWide Try.prog W r b0 26 v2) (h2 : DataW.Trod enc Try.prog W base sp held 26 v2 d2 ps2)
    (hval3 : Value.okWide Try.prog W r b0 42 v3) (h3 : DataW.Trod enc Try.prog W base sp held 42 v3 d3 ps3)
    (hb : Rows.uptoBulkAll [d0, d1, d2, d3] ≤ 1048576) :
    Calls Try.prog 5 #[v0, v1, v2, v3] W fun e w' => e = .returned (.bool true) ∧ Below W.heap.size W w' := by
  obtain ⟨d, bo, po, cb, cp, x0, x1, rfl, rb, rp, hB, rfl, s0, s1⟩ := open_voc hval0 h0
  obtain ⟨so1, cs1, sb1, rfl, rs1, hlen1⟩ := open_strs hval1 h1
  obtain ⟨so2, cs2, sb2, rfl, rs2, hlen2⟩ := open_strs hval2 h2
  obtain ⟨qo, n, cq, On, xo, tn, tk, T, rfl, rq, rt, hT, hsum, hn⟩ := open_pieces hval3 h3
  have h9 : Rows.uptoBulk d3 ≤ 1048576 := Nat.le_trans (bulk_mem (by simp)) hb
  exact apart_law rb rp hB rs1 hlen1 rs2 hlen2 rq rt hT (Nat.le_trans hsum h9) (Nat.le_trans hn h9)
end Go.Proofs.Ytlbmgknlbhakoaa
