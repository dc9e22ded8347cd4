import Derived.Test.YtilghknalbhacaaJAW
import Derived.Test.YtilghknalbhacaaJAU
import Derived.Deep.DeepCutAuto
import Derived.WalkKit
import Derived.ProofKit
import Derived.OpenShut
import Derived.Deep.Matrix
import Derived.SizedLaws
import Derived.Test.YtilghknalbhacaaJAB
import Derived.Test.YtilghknalbhacaaRows
import Derived.Test.YtilghknalbhacaaDeA
import Derived.Test.YtilghknalbhacaaDX
namespace Go.Proofs.Ytilghknalbhacaa
open Go.RowKit
/-! Decode and Load of a file. -/
theorem wtc_of_A {x y : WtD} (h : wtA x = wtA y) : wtc x = wtc y := by
  have := congrArg Array.toList h
  have e : wtL x = wtL y := this
  unfold wtc
  rw [e]
/-- Decode of a file -/
theorem dec_file {w : World} {ao : Option Addr} {cap : Nat} {y : WtD} (h : RdA w ao 1 (fileL y).length cap (bV (fileL y))) (hm : y.may) (hp : WtP y) (hi : WtI y) : Calls Try.prog 13 #[.slice ao (fileL y).length cap] w fun e w' => ∃ x, e = .returned (.tuple #[.agg (wtA x), .int .i64 0]) ∧ WtR w' x ∧ Sm y x ∧ Below w.heap.size w w' := by
  refine (decode_any h (fileL_byt y)).mono ?_
  intro e w' hq
  obtain ⟨x, er, rfl, f1, hor⟩ := hq.one
  rcases hor with ⟨rfl, hg⟩ | ⟨_, _, hn⟩
  · obtain ⟨x', ha, hr, hs⟩ := hg.alike hm hp hi rfl
    exact ⟨x', by rw [ha], hr, hs, f1⟩
  · exact absurd rfl (hn y hm hp hi)
theorem load_file {w : World} {ao : Option Addr} {cap : Nat} {y : WtD} (h : RdA w ao 1 (fileL y).length cap (bV (fileL y))) (hm : y.may) (hp : WtP y) (hi : WtI y) : Calls Try.prog 14 #[.slice ao (fileL y).length cap] w fun e w' => ∃ g x, e = .returned (.tuple #[.pointer (some ⟨g, 0, none⟩), .int .i64 0]) ∧ Mdl w' g y x ∧ WtB x ∧ Below w.heap.size w w' := by
  refine (load_any h (fileL_byt y)).mono ?_
  rintro e w' ⟨f1, ⟨x, g, rfl, _, hrow, hg⟩ | ⟨_, hn⟩⟩
  · obtain ⟨x', ha, hr, hs⟩ := hg.alike hm hp hi rfl
    refine ⟨g, x', rfl, ⟨by rw [wtc_of_A ha]; exact hrow, hr, hs⟩, WtP.b (hs.may hm) (hs.wtp hp), f1⟩
  · exact absurd rfl (hn y hm hp hi)
end Go.Proofs.Ytilghknalbhacaa
namespace Go.Proofs.Ytilghknalbhacaa
open Go.RowKit
/-! CopyBytes. -/
set_option maxHeartbeats 1000000 in
theorem copyB_any {w : World} {ao : Option Addr} {n ca : Nat} {f : Nat → Int} (ha : RdA w ao 1 n ca (fun i => .int .u8 (f i))) (hn : n ≤ 140737488351232) :
    Calls Try.prog 26 #[.slice ao n ca] w fun e w' => ∃ v, e = .returned v ∧ Own w' w.heap.size 5 1 v n (fun j => .int .u8 (f j)) ∧ Below w.heap.size w w' := by
  go_enter Try.func26, Try.ntmps26
  go_wp2
  go_loopw [3, 4] (fun v i wr => ∃ k : Nat, k ≤ n ∧ i = .int .i64 k ∧ Own wr w.heap.size 5 1 v k (fun j => .int .u8 (f j)) ∧ Below w.heap.size w wr) (fun _ i _ => n - (intOf i).toNat)
  case atStart => exact ⟨0, by omega, rfl, own_nil _ _ _ _ _, Below.refl _ _⟩
  case round =>
    obtain ⟨k, hk, rfl, hown, hf1⟩ := hrel
    have hsz := hf1.size
    by_cases hlt : k < n
    · obtain ⟨b1, o1, rfl, h1⟩ := (ha.fresh hf1).one (by omega)
      have c1 := h1 k hlt
      clear h1
      go_wp2_with (at_builtin; refine wpList_app1 _ rfl _ _ 35 rfl _ 5 (.int .u8 0) 1 Try.underlying35 infoU8 rfl _ k _ rfl (hown.kept (fresh_alloc _ _)) _ 1 rfl (new_cell _ _ _) rfl (by omega) (by omega) (by simp; omega) ?_)
      intro v' w6 hown' happ
      have hf6 := happ.below (hf1.alloc hsz _) (hown.kept (fresh_alloc _ _)) (Nat.le_refl _) (by simp; omega)
      clear happ hown hf1 c1
      go_wp2
      go_roundw
      case rel => exact ⟨k + 1, by omega, by go_num, hown', hf6⟩
      case measure => simp [intOf]; omega
    · obtain rfl : k = n := by omega
      go_wp2
      go_ret
      exact ⟨_, rfl, hown, hf1⟩
end Go.Proofs.Ytilghknalbhacaa
namespace Go.Proofs.Ytilghknalbhacaa
open Go.RowKit
/-! A nil model. -/
set_option maxRecDepth 100000 in
set_option maxHeartbeats 4000000 in
theorem mconfig_nil (W : World) : Calls Try.prog 25 #[.pointer none] W fun e w' => e = .returned (.agg #[.int .i64 0, .int .i64 0, .int .i64 0, .int .i64 0, .int .i64 0, .int .i64 0, .int .i64 0, .int .i64 0]) ∧ Below W.heap.size W w' := by
  go_enter Try.func25, Try.ntmps25
  go_wp2
  refine bodyPost_ret (v := .agg #[.int .i64 0, .int .i64 0, .int .i64 0, .int .i64 0, .int .i64 0, .int .i64 0, .int .i64 0, .int .i64 0]) ?_ ?_ ?_
  · exact results_cell_row Try.results25 _ _ W.heap.size 23 _ (0, 0) _ rfl (heap_new W (.cells #[.int .i64 0, .int .i64 0, .int .i64 0, .int .i64 0, .int .i64 0, .int .i64 0, .int .i64 0, .int .i64 0] 23)) Try.underlying23 rfl sizeC
  · rfl
  · exact ⟨rfl, fresh_alloc W _⟩
set_option maxRecDepth 100000 in
set_option maxHeartbeats 4000000 in
theorem mweights_nil (W : World) : Calls Try.prog 15 #[.pointer none] W fun e w' => e = .returned (.agg #[.int .i64 0, .int .i64 0, .int .i64 0, .int .i64 0, .int .i64 0, .int .i64 0, .int .i64 0, .int .i64 0, .int .i64 0, .int .i64 0, .slice none 0 0, .slice none 0 0, .slice none 0 0, .slice none 0 0, .int .i64 0, .int .i64 0, .slice none 0 0, .slice none 0 0]) ∧ Below W.heap.size W w' := by
  go_enter Try.func15, Try.ntmps15
  go_wp2
  refine bodyPost_ret (v := .agg #[.int .i64 0, .int .i64 0, .int .i64 0, .int .i64 0, .int .i64 0, .int .i64 0, .int .i64 0, .int .i64 0, .int .i64 0, .int .i64 0, .slice none 0 0, .slice none 0 0, .slice none 0 0, .slice none 0 0, .int .i64 0, .int .i64 0, .slice none 0 0, .slice none 0 0]) ?_ ?_ ?_
  · exact results_cell_row Try.results15 _ _ W.heap.size 34 _ (0, 0) _ rfl (heap_new W (.cells #[.int .i64 0, .int .i64 0, .int .i64 0, .int .i64 0, .int .i64 0, .int .i64 0, .int .i64 0, .int .i64 0, .int .i64 0, .int .i64 0, .slice none 0 0, .slice none 0 0, .slice none 0 0, .slice none 0 0, .int .i64 0, .int .i64 0, .slice none 0 0, .slice none 0 0] 34)) Try.underlying34 rfl sizeW
  · rfl
  · exact ⟨rfl, fresh_alloc W _⟩
set_option maxRecDepth 100000 in
theorem wt0_rd (w : World) : WtR w wt0 := by
  have n : ∀ (sz : Nat) (cs : Nat → Value), RdA w none sz 0 0 cs := fun sz cs => ⟨Nat.le_refl _, Nat.zero_le _, fun h => absurd h (by omega)⟩
  exact ⟨⟨n _ _, fun i hi => absurd hi (by show ¬ i < 0; omega)⟩, n _ _, ⟨n _ _, fun i hi => absurd hi (by show ¬ i < 0; omega)⟩, ⟨n _ _, fun i hi => absurd hi (by show ¬ i < 0; omega)⟩, Nat.le_refl _, Nat.zero_le _, fun h => absurd h (by show ¬ 0 < 0; omega), fun k hk => absurd hk (by show ¬ k < 0; omega), Nat.le_refl _, Nat.zero_le _, fun h => absurd h (by show ¬ 0 < 0; omega), fun k hk => absurd hk (by show ¬ k < 0; omega)⟩
theorem Sm.refl (x : WtD) : Sm x x := ⟨⟨⟨rfl, rfl, rfl, rfl, rfl, rfl, rfl, rfl⟩, ⟨rfl, rfl, rfl, rfl⟩, ⟨rfl, rfl, rfl, rfl⟩, ⟨rfl, rfl⟩, ⟨rfl, rfl, rfl⟩, rfl, rfl⟩, fun _ _ => ⟨⟨rfl, rfl⟩, ⟨rfl, rfl⟩, fun _ _ => ⟨rfl, rfl, rfl, rfl⟩, rfl⟩, fun _ _ => ⟨rfl, rfl, rfl, rfl⟩⟩
end Go.Proofs.Ytilghknalbhacaa
namespace Go.Proofs.Ytilghknalbhacaa
open Go.RowKit
theorem eq00 (w : World) : Calls Try.prog 16 #[.agg (wtA wt0), .agg (wtA wt0)] w fun e w' => e = .returned (.bool true) ∧ Below w.heap.size w w' := eqW_v (wt0_rd w) (wt0_rd w) (Sm.refl wt0)
theorem wt0_A : wtA wt0 = #[.int .i64 0, .int .i64 0, .int .i64 0, .int .i64 0, .int .i64 0, .int .i64 0, .int .i64 0, .int .i64 0, .int .i64 0, .int .i64 0, .slice none 0 0, .slice none 0 0, .slice none 0 0, .slice none 0 0, .int .i64 0, .int .i64 0, .slice none 0 0, .slice none 0 0] := rfl
theorem eq0_any (w : World) : Calls Try.prog 16 #[.agg #[.int .i64 0, .int .i64 0, .int .i64 0, .int .i64 0, .int .i64 0, .int .i64 0, .int .i64 0, .int .i64 0, .int .i64 0, .int .i64 0, .slice none 0 0, .slice none 0 0, .slice none 0 0, .slice none 0 0, .int .i64 0, .int .i64 0, .slice none 0 0, .slice none 0 0], .agg #[.int .i64 0, .int .i64 0, .int .i64 0, .int .i64 0, .int .i64 0, .int .i64 0, .int .i64 0, .int .i64 0, .int .i64 0, .int .i64 0, .slice none 0 0, .slice none 0 0, .slice none 0 0, .slice none 0 0, .int .i64 0, .int .i64 0, .slice none 0 0, .slice none 0 0]] w fun e w' => e = .returned (.bool true) ∧ Below w.heap.size w w' := by
  have h := eq00 w
  rw [wt0_A] at h
  exact h
end Go.Proofs.Ytilghknalbhacaa
namespace Go.Proofs.Ytilghknalbhacaa
open Go.ChangeShapes Go.WideShapes Go.ChangeAt Go.RowKit Go.Deep
/-! Lists of numbers that came in. -/
theorem add_lit (b off j : Nat) : (⟨b, off, none⟩ : Addr).add j = ⟨b, off + j, none⟩ := by unfold Addr.add; split <;> simp_all
theorem plain_addr {w : World} {a : Addr} {v : Value} (h : w.cell? (a.add 0) = some v) : ∃ b off, a = ⟨b, off, none⟩ := by
  obtain ⟨b, off, sp⟩ := a
  cases sp with
  | none => exact ⟨b, off, rfl⟩
  | some x =>
    have e : (⟨b, off, some x⟩ : Addr).add 0 = ⟨b, off, some x⟩ := by unfold Addr.add; simp
    rw [e] at h
    unfold World.cell? at h
    split at h <;> simp at h
theorem wf_i64 {n : Int} (h : (Lit.int .i64 n).wf = true) : -9223372036854775808 ≤ n ∧ n ≤ 9223372036854775807 := by
  have hmin : IntKind.i64.min = -9223372036854775808 := rfl
  have hmax : IntKind.i64.max = 9223372036854775807 := rfl
  simp only [Lit.wf, Bool.and_eq_true, decide_eq_true_eq] at h; omega
section
variable {H : Type} {enc : TypeId × Value → H} {P : Program} {w : World} {base : Nat} {sp : Nat → Bool} {held : Bool}
theorem open_row {t e : TypeId} {k : IntKind} {fuel : Nat} {v : Value} {x : DataW H × List MemPlace} (ht : P.underlying t = some (.slice e)) (he : P.underlying e = some (.int k)) (hc : P.cellsOf e = 1)
    (h : DataW.trod enc P w base sp held fuel t [v] = some x) :
    ∃ (ao : Option Addr) (n cap : Nat) (f : Nat → Int), v = .slice ao n cap ∧ RdA w ao 1 n cap (fun i => .int k (f i)) ∧ (∀ i, i < n → (Lit.int k (f i)).wf = true) ∧ ((x.1 = .nil ∧ n = 0) ∨ ∃ el rest, x.1 = .slice el rest ∧ el.length = n) := by
  rcases open_ints ht he hc h with ⟨hcs, hx⟩ | ⟨a, len, cap, zs, hcs, _, hl, hm, hz, hx, hcell, hwz⟩
  · simp at hcs
    exact ⟨none, 0, 0, fun _ => 0, hcs, ⟨Nat.le_refl _, Nat.zero_le _, fun h => absurd h (by omega)⟩, fun i hi => absurd hi (by omega), .inl ⟨by rw [hx], rfl⟩⟩
  · simp at hcs
    have hlz : len ≤ zs.length := by rw [hz]; split <;> omega
    refine ⟨some a, len, cap, fun i => zs.getD i 0, hcs, ⟨hl, hm, fun h0 => ?_⟩, fun i hi => ?_, .inr ⟨_, _, by rw [hx], ?_⟩⟩
    · have h1 := hcell 0 (by omega)
      obtain ⟨b, off, rfl⟩ := plain_addr h1
      exact ⟨b, off, rfl, fun j hj => by have := hcell j (by omega); rwa [add_lit] at this⟩
    · apply hwz
      dsimp only
      rw [List.getD_eq_getElem?_getD, List.getElem?_eq_getElem (by omega)]
      exact List.getElem_mem _
    · simp [lits]; omega
end
theorem obulk_one {H : Type} (d : DataW H) : 1 ≤ Rows.uptoBulk d := by
  cases d with
  | lit l => cases l <;> simp [Rows.uptoBulk]
  | nil => simp [Rows.uptoBulk]
  | ptr d => simp [Rows.uptoBulk]
  | slice a b => simp [Rows.uptoBulk]
  | agg a => simp [Rows.uptoBulk]
  | iface t d => simp [Rows.uptoBulk]
  | map e => simp [Rows.uptoBulk]
  | held h => simp [Rows.uptoBulk]
theorem obulk_mem {H : Type} {d : DataW H} : ∀ {l : List (DataW H)}, d ∈ l → Rows.uptoBulk d ≤ Rows.uptoBulkAll l
  | [], h => absurd h (by simp)
  | x :: r, h => by
    simp only [Rows.uptoBulkAll]
    rcases List.mem_cons.1 h with e | e
    · subst e; omega
    · have := obulk_mem e; omega
theorem obulk_length {H : Type} : ∀ (l : List (DataW H)), l.length ≤ Rows.uptoBulkAll l
  | [] => by simp [Rows.uptoBulkAll]
  | x :: r => by
    have h1 := obulk_one x
    have h2 := obulk_length r
    simp only [Rows.uptoBulkAll, List.length_cons]; omega
theorem bulk_row {H : Type} {d : DataW H} {n : Nat} (h : (d = .nil ∧ n = 0) ∨ ∃ el rest, d = .slice el rest ∧ el.length = n) : n ≤ Rows.uptoBulk d := by
  rcases h with ⟨_, e⟩ | ⟨el, rest, rfl, e⟩
  · omega
  · have := obulk_length el
    simp only [Rows.uptoBulk]; omega
theorem row_bulk {H : Type} {l : List (DataW H)} {x : DataW H} {n : Nat} (hb : Rows.uptoBulkAll l ≤ 1048576) (hm : x ∈ l) (h : (x = .nil ∧ n = 0) ∨ ∃ el rest, x = .slice el rest ∧ el.length = n) : n ≤ 1048576 :=
  Nat.le_trans (Nat.le_trans (bulk_row h) (obulk_mem hm)) hb
theorem cellsU : Try.prog.cellsOf 5 = 1 := by kernel_rfl
theorem wf_u8 {n : Int} (h : (Lit.int .u8 n).wf = true) : 0 ≤ n ∧ n ≤ 255 := by
  have hmin : IntKind.u8.min = 0 := rfl
  have hmax : IntKind.u8.max = 255 := rfl
  simp only [Lit.wf, Bool.and_eq_true, decide_eq_true_eq] at h; omega
set_option maxRecDepth 100000 in
theorem open_bytes {H : Type} {enc : TypeId × Value → H} {W : World} {base : Nat} {sp : Nat → Bool} {held : Bool} {r : Reach} {b0 : Nat} {v0 : Value} {d0 : DataW H} {ps0 : List MemPlace}
    (hval0 : Value.okWide Try.prog W r b0 35 v0) (h0 : DataW.Trod enc Try.prog W base sp held 35 v0 d0 ps0) :
    ∃ (ao : Option Addr) (l : List Int) (cap : Nat), v0 = .slice ao l.length cap ∧ RdA W ao 1 l.length cap (fun j => .int .u8 (l.getD j 0)) ∧ Byt l ∧ ((d0 = .nil ∧ l.length = 0) ∨ ∃ el rest, d0 = .slice el rest ∧ el.length = l.length) := by
  obtain ⟨a2, l2, c2, rfl⟩ := okWide_slice Try.underlying35 hval0
  obtain ⟨fuel, h1⟩ := h0
  have h1 : DataW.trod enc Try.prog W base sp held fuel 35 [.slice a2 l2 c2] = some (d0, ps0) := h1
  obtain ⟨ao, n, cap, f, e, hr, hw, hs⟩ := open_row Try.underlying35 Try.underlying5 cellsU h1
  have hn : ((List.range n).map f).length = n := by simp
  refine ⟨ao, (List.range n).map f, cap, by rw [hn]; exact e, ?_, fun x hx => ?_, by rw [hn]; exact hs⟩
  · rw [hn]
    refine hr.congr (fun j hj => ?_)
    have hj' : j < n := by omega
    simp [List.getD_eq_getElem?_getD, hj']
  · obtain ⟨i, hi, rfl⟩ := List.mem_map.1 hx
    have := wf_u8 (hw i (List.mem_range.1 hi))
    omega
end Go.Proofs.Ytilghknalbhacaa
namespace Go.Proofs.Ytilghknalbhacaa
open Go.ChangeShapes Go.WideShapes Go.ChangeAt Go.RowKit Go.Deep
/-! ModelDecodes: the law. -/
theorem rdec_file {w : World} {ao : Option Addr} {cap : Nat} {y : WtD} (h : RdA w ao 1 (fileL y).length cap (bV (fileL y))) (hm : y.may) (hp : WtP y) (hi : WtI y) : Calls Try.prog 27 #[.slice ao (fileL y).length cap] w fun e w' => ∃ x, e = .returned (.tuple #[.agg (wtA x), .int .i64 0]) ∧ WtR w' x ∧ Sm y x ∧ Below w.heap.size w w' := by
  refine (rdec_any h (fileL_byt y)).mono ?_
  intro e w' hq
  obtain ⟨x, er, rfl, f1, hor⟩ := hq.one
  rcases hor with ⟨rfl, hg⟩ | ⟨_, _, hn⟩
  · obtain ⟨x', ha, hr, hs⟩ := hg.alike hm hp hi rfl
    exact ⟨x', by rw [ha], hr, hs, f1⟩
  · exact absurd rfl (hn y hm hp hi)
set_option maxRecDepth 20000 in
theorem decodes_any {w : World} {ao : Option Addr} {cap : Nat} {B : List Int} (hB : RdA w ao 1 B.length cap (bV B)) (bB : Byt B) (l1 : B.length ≤ 140737488351232) :
    Calls Try.prog 8 #[.slice ao B.length cap] w fun e w' => e = .returned (.bool true) ∧ Below w.heap.size w w' := by
  by_cases hy : ∃ y, y.may ∧ WtP y ∧ WtI y ∧ B = fileL y
  · obtain ⟨y, hm, hp, hi, rfl⟩ := hy
    refine decodes_core (B := fileL y) (er := 0) (fun z x => WtR z x ∧ Sm y x) (fun z p => ∃ g x2, p = some ⟨g, 0, none⟩ ∧ Mdl z g y x2 ∧ WtB x2) rfl hB l1 ?_ ?_ works_any ?_ ?_ ?_ ?_ ?_ ?_ ?_ ?_
    · rintro z z' x ⟨h1, h2⟩ f
      exact ⟨h1.fresh f, h2⟩
    · rintro z z' p ⟨g, x2, rfl, h1, h2⟩ f
      exact ⟨g, x2, rfl, h1.fresh f, h2⟩
    · intro z u c hr
      exact copyB_any (f := fun i => (fileL y).getD i 0) hr (by omega)
    · intro z u c hr
      refine (dec_file hr hm hp hi).mono ?_
      rintro e w' ⟨x, rfl, h1, h2, f⟩
      exact ⟨x, rfl, ⟨h1, h2⟩, f⟩
    · intro z u c hr
      refine (rdec_file hr hm hp hi).mono ?_
      rintro e w' ⟨x, rfl, h1, h2, f⟩
      exact ⟨x, rfl, ⟨h1, h2⟩, f⟩
    · intro z u c hr
      refine (load_file hr hm hp hi).mono ?_
      rintro e w' ⟨g, x, rfl, h1, h2, f⟩
      exact ⟨_, rfl, ⟨g, x, rfl, h1, h2⟩, f⟩
    · rintro z p ⟨g, x2, rfl, h1, h2⟩
      refine (mweights_any h1 h2).mono ?_
      rintro e w' ⟨x, rfl, h3, h4, f⟩
      exact ⟨x, rfl, ⟨h3, h4⟩, f⟩
    · rintro z p ⟨g, x2, rfl, _, _⟩
      exact .inl ⟨rfl, g, rfl⟩
    · rintro z x v ⟨h1, h2⟩ ⟨h3, h4⟩
      exact eqW_v h3 h1 (h4.symm.trans h2)
    · intro z u v c d h1 h2
      exact eqBytes_same (f := fun i => (fileL y).getD i 0) (g := fun i => (fileL y).getD i 0) h1 h2 (fun _ _ => rfl)
  · have hn : NoFile B := fun y hm hp hi e => hy ⟨y, hm, hp, hi, e⟩
    refine decodes_core (B := B) (er := 42) (fun _ x => x = wt0) (fun _ p => p = none) rfl hB l1 ?_ ?_ works_any ?_ ?_ ?_ ?_ ?_ ?_ ?_ ?_
    · exact fun _ _ _ h _ => h
    · exact fun _ _ _ h _ => h
    · intro z u c hr
      exact copyB_any (f := fun i => B.getD i 0) hr (by omega)
    · intro z u c hr
      refine (decode_any hr bB).mono ?_
      intro e w' hq
      obtain ⟨x, er, rfl, f, hor⟩ := hq.one
      rcases hor with ⟨_, hg⟩ | ⟨rfl, rfl, _⟩
      · exact absurd hg.file (hn x hg.may hg.fit hg.i)
      · exact ⟨_, rfl, rfl, f⟩
    · intro z u c hr
      refine (rdec_any hr bB).mono ?_
      intro e w' hq
      obtain ⟨x, er, rfl, f, hor⟩ := hq.one
      rcases hor with ⟨_, hg⟩ | ⟨rfl, rfl, _⟩
      · exact absurd hg.file (hn x hg.may hg.fit hg.i)
      · exact ⟨_, rfl, rfl, f⟩
    · intro z u c hr
      refine (load_any hr bB).mono ?_
      rintro e w' ⟨f, ⟨y, g, rfl, _, _, hg⟩ | ⟨rfl, _⟩⟩
      · exact absurd hg.file (hn y hg.may hg.fit hg.i)
      · exact ⟨none, rfl, rfl, f⟩
    · rintro z p rfl
      refine (mweights_nil z).mono ?_
      rintro e w' ⟨rfl, f⟩
      exact ⟨wt0, rfl, rfl, f⟩
    · rintro z p rfl
      exact .inr ⟨rfl, rfl⟩
    · rintro z x v rfl rfl
      exact eq0_any z
    · intro z u v c d h1 h2
      exact eqBytes_same (f := fun i => B.getD i 0) (g := fun i => B.getD i 0) h1 h2 (fun _ _ => rfl)
theorem bytesU : Try.prog.bytesOf 5 = 1 := by kernel_rfl
theorem bytes_sized {H : Type} {d0 : DataW H} {ts : List TypeId} {ds : List (DataW H)} {j n : Nat} (hsz : (DataW.weightsEach Try.prog ts ds).all (· ≤ reachBytes) = true) (ht : ts[j]? = some 35) (hd : ds[j]? = some d0) (hs : (d0 = .nil ∧ n = 0) ∨ ∃ el rest, d0 = .slice el rest ∧ el.length = n) : n ≤ 140737488351232 := by
  rcases hs with ⟨_, rfl⟩ | ⟨el, rest, e2, rfl⟩
  · omega
  · subst e2
    have hlen := sized_slice hsz ht hd Try.underlying35
    rw [bytesU] at hlen
    simp only [reachBytes] at hlen
    omega
set_option maxRecDepth 100000 in
theorem modelDecodes_walkR {H : Type} {enc : TypeId × Value → H} {base : Nat} {sp : Nat → Bool} {held : Bool} {r : Reach} {b0 : Nat} {v0 : Value} {d0 : DataW H} {ps0 : List MemPlace} (W : World)
    (hval0 : Value.okWide Try.prog W r b0 35 v0) (h0 : DataW.Trod enc Try.prog W base sp held 35 v0 d0 ps0) (hsz : (DataW.weightsEach Try.prog [35] [d0]).all (· ≤ reachBytes) = true) :
    Calls Try.prog 8 #[v0] W fun e w' => e = .returned (.bool true) ∧ Below W.heap.size W w' := by
  obtain ⟨ao, l, cap, rfl, hr, hby, hs⟩ := open_bytes hval0 h0
  exact decodes_any hr hby (bytes_sized (j := 0) hsz rfl rfl hs)
end Go.Proofs.Ytilghknalbhacaa
