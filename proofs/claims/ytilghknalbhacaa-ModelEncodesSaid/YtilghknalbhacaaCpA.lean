import Derived.Test.YtilghknalbhacaaJAJ
import Derived.Test.YtilghknalbhacaaShC
import Derived.Laws.Rows
namespace Go.Proofs.Ytilghknalbhacaa
open Go.RowKit
/-! slices.Clone of four types; a matrix copied. -/
theorem add_litO (g o j : Nat) : (⟨g, o, none⟩ : Addr).add j = ⟨g, o + j, none⟩ := by unfold Addr.add; split <;> simp_all
theorem wpList_appO {P : Program} (w : World) {ops : Array Oper} {rest : List Oper} {o : Oper} {a : Act} {Q : Exit → Act → World → Prop}
    (hg : o.guard = none) (s x : Operand) (t : TypeId) (hop : o.op = Op.call { callee := Callee.builtin Builtin.append, args := #[s, x], argTypes := #[t, t] })
    (base : Nat) (e : TypeId) (z : Value) (sz bytes : Nat) (h1 : P.underlying t = some (.slice e)) (hinfo : (P.info? e).map (fun i => (i.zero, i.size, i.bytes)) = some (some z, sz, bytes)) (h6 : z.cells.size = sz) (h7 : 0 < sz)
    (v : Value) (n : Nat) (cs : Nat → Value) (hs : a.eval s = v) (hown : Own w base e sz v n cs)
    (g off m c : Nat) (hx : a.eval x = .slice (some ⟨g, off, none⟩) m c) (hc : ∀ j, j < m * sz → w.cell? ⟨g, off + j, none⟩ = some (cs (n * sz + j))) (h1c : ∀ j, j < m * sz → (cs (n * sz + j)).oneCell' = true)
    (hm : 0 < m) (b1 : n + m ≤ maxLen) (b2 : (n + m) * bytes ≤ 140737488355328) (hb : base ≤ w.heap.size)
    (hK : ∀ v' w', Own w' base e sz v' (n + m) cs → App w w' v v' → wpList P ops Q rest (a.put o.dst v') w') : wpList P ops Q (o :: rest) a w := by
  obtain ⟨i, hi, hz0, hz1, hz2⟩ := info_parts hinfo
  have hn : ((List.range (m * sz)).map (fun j => cs (n * sz + j))).length = m * sz := by simp
  have hc' : ∀ j u, ((List.range (m * sz)).map (fun j => cs (n * sz + j)))[j]? = some u → w.cell? ((⟨g, off, none⟩ : Addr).add j) = some u := by
    intro j u hu
    rw [add_litO]
    by_cases hj : j < m * sz
    · simp [hj] at hu; rw [hc j hj, hu]
    · simp [hj] at hu
  have h1c' : ∀ u ∈ (List.range (m * sz)).map (fun j => cs (n * sz + j)), u.oneCell' = true := by
    intro u hu
    obtain ⟨j, hj, rfl⟩ := List.mem_map.1 hu
    exact h1c j (List.mem_range.1 hj)
  rcases hown.2 with ⟨rfl, rfl⟩ | ⟨k, cap, cur, rfl, hbg, hgg, hnc, hcm, hcs, htake⟩
  · refine wpList_append_grows w hg s x t hop e i z sz bytes h1 hi hz0 hz1 hz2 h6 h7 none 0 0 [] hs (fun _ => ⟨rfl, rfl⟩) (by simp) (fun b hb => by cases hb) ⟨g, off, none⟩ m c _ hx hn hc' h1c' (by omega) b1 b2 ?_
    intro v' w' ho hgr
    refine hK v' w' ?_ ⟨hgr, fun k hk => .inr (World.ownsRow.lt ho k hk).1⟩
    have hx' := Own.weaken (cs := cs) (base' := base) (n := 0 + m) (by unfold Own; rw [← news_len 0 m sz cs]; simpa using ho) hb
    exact hx'
  · by_cases hroom : n + m ≤ cap
    · refine wpList_plain hg fun K hK' => ?_
      obtain ⟨w', hr, ho, hgr⟩ := run_append_fits (P := P) w base t o.type e i sz h1 hi hz1 k n cap _ hown ⟨g, off, none⟩ m c _ hn hc' h1c' hroom
      unfold Oper.wp execOp
      simp only [hop, resolve, invoke, builtin, Sem.run_bind, Sem.run_pure, Result.andThen_ok, List.map_toArray, List.map_cons, List.map_nil, hs, hx, hr]
      exact hK' _ _ (hK _ w' (by unfold Own; rw [← news_len n m sz cs]; exact ho) ⟨hgr, fun k hk => .inl hk⟩)
    · refine wpList_append_grows w hg s x t hop e i z sz bytes h1 hi hz0 hz1 hz2 h6 h7 (some ⟨k, 0, none⟩) n cap ((List.range (n * sz)).map cs) hs (fun h => by cases h) hown.1 (fun b hb => by cases hb; exact World.ownsRow.cells hown (g := k) rfl) ⟨g, off, none⟩ m c _ hx hn hc' h1c' (by omega) b1 b2 ?_
      intro v' w' ho hgr
      refine hK v' w' ?_ ⟨⟨hgr.os, hgr.tape, hgr.output, hgr.size, fun k hk _ => hgr.block k hk (by simp)⟩, fun k hk => .inr (World.ownsRow.lt ho k hk).1⟩
      exact Own.weaken (cs := cs) (base' := base) (n := n + m) (by unfold Own; rw [← news_len n m sz cs]; exact ho) hb
theorem own_emptyZ (w : World) (t : TypeId) (sz : Nat) (cs : Nat → Value) : Own (w.alloc (.cells #[] t)) w.heap.size t sz (.slice (some ⟨w.heap.size, 0, none⟩) 0 0) 0 cs := by
  refine ⟨by simp, .inr ⟨w.heap.size, 0, #[], rfl, Nat.le_refl _, ?_, Nat.le_refl _, by simp [maxLen], by simp, by simp⟩⟩
  exact Go.Deep.blk_alloc_new _ _
theorem run_append_zero {P : Program} (w : World) (t ty e : TypeId) (ht : P.underlying t = some (.slice e)) {i : TypeInfo} (hi : P.info? e = some i) (ao u : Option Addr) (n cap k : Nat) (hle : n ≤ cap) :
    (Builtin.append_ #[t, t] ty #[.slice ao n cap, .slice u 0 k]).run P w = .ok (.slice ao n cap) w := by
  have hF : ∀ w, (Builtin.firstCells i.size 0 (.slice u 0 k)).run P w = .ok #[] w := fun w => by
    cases u with
    | none => exact run_firstCells_none w i.size 0 0 k
    | some a => exact run_firstCells_some w i.size 0 a 0 k [] (by simp) (by simp)
  cases ao with
  | none => cases u <;> simp [Builtin.append_, run_underlying ht, sizeOf, typeInfo, hi, Builtin.lenOf, hle, hF]
  | some a => cases u <;> simp [Builtin.append_, run_underlying ht, sizeOf, typeInfo, hi, Builtin.lenOf, hle, hF, storeCells]
def zMt : Value := .agg #[.int .i64 0, .int .i64 0, .slice none 0 0]
def zLy : Value := .agg #[.slice none 0 0, .slice none 0 0, .int .i64 0, .int .i64 0, .slice none 0 0, .int .i64 0, .int .i64 0, .slice none 0 0, .int .i64 0, .int .i64 0, .slice none 0 0, .int .i64 0, .int .i64 0, .slice none 0 0, .int .i64 0, .int .i64 0, .slice none 0 0, .int .i64 0, .int .i64 0, .slice none 0 0, .int .i64 0, .int .i64 0, .slice none 0 0, .int .i64 0, .int .i64 0, .int .i64 0, .int .i64 0, .int .i64 0, .int .i64 0, .int .i64 0]
theorem infoTu : (Try.prog.info? 97).map (fun i => (i.zero, i.size, i.bytes)) = some (some (.agg #[.int .i64 0, .int .i64 0]), 2, 16) := by kernel_rfl
theorem infoMa : (Try.prog.info? 29).map (fun i => (i.zero, i.size, i.bytes)) = some (some zMt, 3, 40) := by kernel_rfl
theorem infoLy : (Try.prog.info? 67).map (fun i => (i.zero, i.size, i.bytes)) = some (some zLy, 30, 384) := by kernel_rfl
theorem eqNilT (u : Option Addr) (n k : Nat) (w : World) : (binOp .eql 30 (.slice u n k) (.slice none 0 0)).run Try.prog w = .ok (.bool u.isNone) w := by
  cases u with
  | none => exact Lib.run_eql_slice_nil (P := Try.prog) w 30 97 none n k 0 0 Try.underlying30
  | some a => exact Lib.run_eql_slice_nil (P := Try.prog) w 30 97 (some a) n k 0 0 Try.underlying30
set_option maxHeartbeats 2000000 in
theorem cloneT_any {w : World} {u : Option Addr} {n c : Nat} {cs : Nat → Value} (h : RdA w u 2 n c cs) (h1 : ∀ j, j < n * 2 → (cs j).oneCell' = true) (hn : n ≤ 1048576) :
    Calls Try.prog 73 #[.slice u n c] w fun e w' => ∃ u' c', e = .returned (.slice u' n c') ∧ Own w' w.heap.size 97 2 (.slice u' n c') n cs ∧ Below w.heap.size w w' := by
  by_cases h0 : 0 < n
  · obtain ⟨b, off, rfl, hc⟩ := h.at_ h0
    have HO := hidd (own_emptyZ w 97 2 cs)
    have HC : Hid (∀ j, j < n * 2 → (w.alloc (.cells #[] 97)).cell? ⟨b, off + j, none⟩ = some (cs (0 * 2 + j))) := fun j hj => by
      rw [fresh_cell (fresh_alloc _ _) (hc j hj), Nat.zero_mul, Nat.zero_add]
    have H1 : Hid (∀ j, j < n * 2 → (cs (0 * 2 + j)).oneCell' = true) := fun j hj => by rw [Nat.zero_mul, Nat.zero_add]; exact h1 j hj
    clear h hc h1
    have hq : ∀ w, (binOp .eql 30 (.slice (some ⟨b, off, none⟩) n c) (.slice none 0 0)).run Try.prog w = .ok (.bool false) w := eqNilT (some ⟨b, off, none⟩) n c
    go_enter Try.func73, Try.ntmps73
    go_wp2_with (at_builtin; refine wpList_appO _ rfl _ _ 30 rfl w.heap.size 97 (.agg #[.int .i64 0, .int .i64 0]) 2 16 Try.underlying30 infoTu rfl (by decide) _ 0 cs rfl HO.out b off n c rfl HC.out H1.out h0 (by unfold maxLen; omega) (by omega) (by simp) ?_)
    intro v' w6 hown' happ
    have hf6 := happ.below (fresh_alloc w _) HO.out (Nat.le_refl _) (by simp)
    have HP := hidd hown'
    obtain ⟨u', c', rfl, _⟩ := hown'.rd
    clear happ hown'
    go_wp2
    go_ret
    exact ⟨u', c', rfl, HP.out, hf6⟩
  · obtain rfl : n = 0 := by omega
    obtain ⟨i0, hi0, _, _, _⟩ := info_parts infoTu
    cases u with
    | none =>
      have hq : ∀ w, (binOp .eql 30 (.slice none 0 c) (.slice none 0 0)).run Try.prog w = .ok (.bool true) w := eqNilT none 0 c
      go_enter Try.func73, Try.ntmps73
      go_wp2
      go_ret
      exact ⟨none, 0, rfl, own_nil _ _ _ _ _, Below.refl _ _⟩
    | some a =>
      have hq : ∀ w, (binOp .eql 30 (.slice (some a) 0 c) (.slice none 0 0)).run Try.prog w = .ok (.bool false) w := eqNilT (some a) 0 c
      go_enter Try.func73, Try.ntmps73
      go_wp2_with (at_builtin; refine Lib.wpList_append_run _ rfl _ _ _ _ rfl _ _ rfl rfl _ _ (run_append_zero _ 30 _ 97 Try.underlying30 hi0 _ (some a) 0 0 c (Nat.le_refl _)) ?_)
      all_goals (go_ret; exact ⟨_, _, rfl, own_emptyZ _ _ _ _, fresh_alloc _ _⟩)
theorem eqNilB (u : Option Addr) (n k : Nat) (w : World) : (binOp .eql 27 (.slice u n k) (.slice none 0 0)).run Try.prog w = .ok (.bool u.isNone) w := by
  cases u with
  | none => exact Lib.run_eql_slice_nil (P := Try.prog) w 27 84 none n k 0 0 Try.underlying27
  | some a => exact Lib.run_eql_slice_nil (P := Try.prog) w 27 84 (some a) n k 0 0 Try.underlying27
set_option maxHeartbeats 2000000 in
theorem cloneB_any {w : World} {u : Option Addr} {n c : Nat} {cs : Nat → Value} (h : RdA w u 1 n c cs) (h1 : ∀ j, j < n * 1 → (cs j).oneCell' = true) (hn : n ≤ 1048576) :
    Calls Try.prog 74 #[.slice u n c] w fun e w' => ∃ u' c', e = .returned (.slice u' n c') ∧ Own w' w.heap.size 84 1 (.slice u' n c') n cs ∧ Below w.heap.size w w' := by
  by_cases h0 : 0 < n
  · obtain ⟨b, off, rfl, hc⟩ := h.at_ h0
    have HO := hidd (own_emptyZ w 84 1 cs)
    have HC : Hid (∀ j, j < n * 1 → (w.alloc (.cells #[] 84)).cell? ⟨b, off + j, none⟩ = some (cs (0 * 1 + j))) := fun j hj => by
      rw [fresh_cell (fresh_alloc _ _) (hc j hj), Nat.zero_mul, Nat.zero_add]
    have H1 : Hid (∀ j, j < n * 1 → (cs (0 * 1 + j)).oneCell' = true) := fun j hj => by rw [Nat.zero_mul, Nat.zero_add]; exact h1 j hj
    clear h hc h1
    have hq : ∀ w, (binOp .eql 27 (.slice (some ⟨b, off, none⟩) n c) (.slice none 0 0)).run Try.prog w = .ok (.bool false) w := eqNilB (some ⟨b, off, none⟩) n c
    go_enter Try.func74, Try.ntmps74
    go_wp2_with (at_builtin; refine wpList_appO _ rfl _ _ 27 rfl w.heap.size 84 (.int .i8 0) 1 1 Try.underlying27 infoI8 rfl (by decide) _ 0 cs rfl HO.out b off n c rfl HC.out H1.out h0 (by unfold maxLen; omega) (by omega) (by simp) ?_)
    intro v' w6 hown' happ
    have hf6 := happ.below (fresh_alloc w _) HO.out (Nat.le_refl _) (by simp)
    have HP := hidd hown'
    obtain ⟨u', c', rfl, _⟩ := hown'.rd
    clear happ hown'
    go_wp2
    go_ret
    exact ⟨u', c', rfl, HP.out, hf6⟩
  · obtain rfl : n = 0 := by omega
    obtain ⟨i0, hi0, _, _, _⟩ := info_parts infoI8
    cases u with
    | none =>
      have hq : ∀ w, (binOp .eql 27 (.slice none 0 c) (.slice none 0 0)).run Try.prog w = .ok (.bool true) w := eqNilB none 0 c
      go_enter Try.func74, Try.ntmps74
      go_wp2
      go_ret
      exact ⟨none, 0, rfl, own_nil _ _ _ _ _, Below.refl _ _⟩
    | some a =>
      have hq : ∀ w, (binOp .eql 27 (.slice (some a) 0 c) (.slice none 0 0)).run Try.prog w = .ok (.bool false) w := eqNilB (some a) 0 c
      go_enter Try.func74, Try.ntmps74
      go_wp2_with (at_builtin; refine Lib.wpList_append_run _ rfl _ _ _ _ rfl _ _ rfl rfl _ _ (run_append_zero _ 27 _ 84 Try.underlying27 hi0 _ (some a) 0 0 c (Nat.le_refl _)) ?_)
      all_goals (go_ret; exact ⟨_, _, rfl, own_emptyZ _ _ _ _, fresh_alloc _ _⟩)
theorem eqNilY (u : Option Addr) (n k : Nat) (w : World) : (binOp .eql 31 (.slice u n k) (.slice none 0 0)).run Try.prog w = .ok (.bool u.isNone) w := by
  cases u with
  | none => exact Lib.run_eql_slice_nil (P := Try.prog) w 31 67 none n k 0 0 Try.underlying31
  | some a => exact Lib.run_eql_slice_nil (P := Try.prog) w 31 67 (some a) n k 0 0 Try.underlying31
set_option maxHeartbeats 2000000 in
theorem cloneY_any {w : World} {u : Option Addr} {n c : Nat} {cs : Nat → Value} (h : RdA w u 30 n c cs) (h1 : ∀ j, j < n * 30 → (cs j).oneCell' = true) (hn : n ≤ 1048576) :
    Calls Try.prog 75 #[.slice u n c] w fun e w' => ∃ u' c', e = .returned (.slice u' n c') ∧ Own w' w.heap.size 67 30 (.slice u' n c') n cs ∧ Below w.heap.size w w' := by
  by_cases h0 : 0 < n
  · obtain ⟨b, off, rfl, hc⟩ := h.at_ h0
    have HO := hidd (own_emptyZ w 67 30 cs)
    have HC : Hid (∀ j, j < n * 30 → (w.alloc (.cells #[] 67)).cell? ⟨b, off + j, none⟩ = some (cs (0 * 30 + j))) := fun j hj => by
      rw [fresh_cell (fresh_alloc _ _) (hc j hj), Nat.zero_mul, Nat.zero_add]
    have H1 : Hid (∀ j, j < n * 30 → (cs (0 * 30 + j)).oneCell' = true) := fun j hj => by rw [Nat.zero_mul, Nat.zero_add]; exact h1 j hj
    clear h hc h1
    have hq : ∀ w, (binOp .eql 31 (.slice (some ⟨b, off, none⟩) n c) (.slice none 0 0)).run Try.prog w = .ok (.bool false) w := eqNilY (some ⟨b, off, none⟩) n c
    go_enter Try.func75, Try.ntmps75
    go_wp2_with (at_builtin; refine wpList_appO _ rfl _ _ 31 rfl w.heap.size 67 zLy 30 384 Try.underlying31 infoLy rfl (by decide) _ 0 cs rfl HO.out b off n c rfl HC.out H1.out h0 (by unfold maxLen; omega) (by omega) (by simp) ?_)
    intro v' w6 hown' happ
    have hf6 := happ.below (fresh_alloc w _) HO.out (Nat.le_refl _) (by simp)
    have HP := hidd hown'
    obtain ⟨u', c', rfl, _⟩ := hown'.rd
    clear happ hown'
    go_wp2
    go_ret
    exact ⟨u', c', rfl, HP.out, hf6⟩
  · obtain rfl : n = 0 := by omega
    obtain ⟨i0, hi0, _, _, _⟩ := info_parts infoLy
    cases u with
    | none =>
      have hq : ∀ w, (binOp .eql 31 (.slice none 0 c) (.slice none 0 0)).run Try.prog w = .ok (.bool true) w := eqNilY none 0 c
      go_enter Try.func75, Try.ntmps75
      go_wp2
      go_ret
      exact ⟨none, 0, rfl, own_nil _ _ _ _ _, Below.refl _ _⟩
    | some a =>
      have hq : ∀ w, (binOp .eql 31 (.slice (some a) 0 c) (.slice none 0 0)).run Try.prog w = .ok (.bool false) w := eqNilY (some a) 0 c
      go_enter Try.func75, Try.ntmps75
      go_wp2_with (at_builtin; refine Lib.wpList_append_run _ rfl _ _ _ _ rfl _ _ rfl rfl _ _ (run_append_zero _ 31 _ 67 Try.underlying31 hi0 _ (some a) 0 0 c (Nat.le_refl _)) ?_)
      all_goals (go_ret; exact ⟨_, _, rfl, own_emptyZ _ _ _ _, fresh_alloc _ _⟩)
theorem eqNilM (u : Option Addr) (n k : Nat) (w : World) : (binOp .eql 32 (.slice u n k) (.slice none 0 0)).run Try.prog w = .ok (.bool u.isNone) w := by
  cases u with
  | none => exact Lib.run_eql_slice_nil (P := Try.prog) w 32 29 none n k 0 0 Try.underlying32
  | some a => exact Lib.run_eql_slice_nil (P := Try.prog) w 32 29 (some a) n k 0 0 Try.underlying32
set_option maxHeartbeats 2000000 in
theorem cloneM_any {w : World} {u : Option Addr} {n c : Nat} {cs : Nat → Value} (h : RdA w u 3 n c cs) (h1 : ∀ j, j < n * 3 → (cs j).oneCell' = true) (hn : n ≤ 1048576) :
    Calls Try.prog 76 #[.slice u n c] w fun e w' => ∃ u' c', e = .returned (.slice u' n c') ∧ Own w' w.heap.size 29 3 (.slice u' n c') n cs ∧ Below w.heap.size w w' := by
  by_cases h0 : 0 < n
  · obtain ⟨b, off, rfl, hc⟩ := h.at_ h0
    have HO := hidd (own_emptyZ w 29 3 cs)
    have HC : Hid (∀ j, j < n * 3 → (w.alloc (.cells #[] 29)).cell? ⟨b, off + j, none⟩ = some (cs (0 * 3 + j))) := fun j hj => by
      rw [fresh_cell (fresh_alloc _ _) (hc j hj), Nat.zero_mul, Nat.zero_add]
    have H1 : Hid (∀ j, j < n * 3 → (cs (0 * 3 + j)).oneCell' = true) := fun j hj => by rw [Nat.zero_mul, Nat.zero_add]; exact h1 j hj
    clear h hc h1
    have hq : ∀ w, (binOp .eql 32 (.slice (some ⟨b, off, none⟩) n c) (.slice none 0 0)).run Try.prog w = .ok (.bool false) w := eqNilM (some ⟨b, off, none⟩) n c
    go_enter Try.func76, Try.ntmps76
    go_wp2_with (at_builtin; refine wpList_appO _ rfl _ _ 32 rfl w.heap.size 29 zMt 3 40 Try.underlying32 infoMa rfl (by decide) _ 0 cs rfl HO.out b off n c rfl HC.out H1.out h0 (by unfold maxLen; omega) (by omega) (by simp) ?_)
    intro v' w6 hown' happ
    have hf6 := happ.below (fresh_alloc w _) HO.out (Nat.le_refl _) (by simp)
    have HP := hidd hown'
    obtain ⟨u', c', rfl, _⟩ := hown'.rd
    clear happ hown'
    go_wp2
    go_ret
    exact ⟨u', c', rfl, HP.out, hf6⟩
  · obtain rfl : n = 0 := by omega
    obtain ⟨i0, hi0, _, _, _⟩ := info_parts infoMa
    cases u with
    | none =>
      have hq : ∀ w, (binOp .eql 32 (.slice none 0 c) (.slice none 0 0)).run Try.prog w = .ok (.bool true) w := eqNilM none 0 c
      go_enter Try.func76, Try.ntmps76
      go_wp2
      go_ret
      exact ⟨none, 0, rfl, own_nil _ _ _ _ _, Below.refl _ _⟩
    | some a =>
      have hq : ∀ w, (binOp .eql 32 (.slice (some a) 0 c) (.slice none 0 0)).run Try.prog w = .ok (.bool false) w := eqNilM (some a) 0 c
      go_enter Try.func76, Try.ntmps76
      go_wp2_with (at_builtin; refine Lib.wpList_append_run _ rfl _ _ _ _ rfl _ _ rfl rfl _ _ (run_append_zero _ 32 _ 29 Try.underlying32 hi0 _ (some a) 0 0 c (Nat.le_refl _)) ?_)
      all_goals (go_ret; exact ⟨_, _, rfl, own_emptyZ _ _ _ _, fresh_alloc _ _⟩)
theorem Own.set {w : World} {base : Nat} {e : TypeId} {sz : Nat} {v : Value} {n : Nat} {cs : Nat → Value} (h : Own w base e sz v n cs) {g j : Nat} {x : Value} (hg : v.ownBlock ≠ some g) : Own (w.setCell ⟨g, j, none⟩ x) base e sz v n cs := by
  refine ⟨h.1, ?_⟩
  rcases h.2 with hn | ⟨k, cap, cur, rfl, hb, hgg, rest⟩
  · exact .inl hn
  · refine .inr ⟨k, cap, cur, rfl, hb, ?_, rest⟩
    have hk : k ≠ g := fun e => hg (by simp [Value.ownBlock, e])
    rw [Below.heap_setCell _ _ _ _ hk]; exact hgg
theorem row_fresh {w w' : World} {g n : Nat} {t : TypeId} {f : Nat → Value} (h : w.rowIs g t n f) (k : Below w.heap.size w w') : w'.rowIs g t n f := h.of_block (k.block _ h.lt)
def row3 (a b c : Value) : Nat → Value := fun i => if i = 0 then a else if i = 1 then b else c
theorem World.rowIs_alloc3 (w : World) (a b c : Value) (t : TypeId) : (w.alloc (.cells #[a, b, c] t)).rowIs w.heap.size t 3 (row3 a b c) :=
  World.rowIs_alloc w #[a, b, c] t _ (fun i hi => by
    have : i = 0 ∨ i = 1 ∨ i = 2 := by simp at hi; omega
    rcases this with rfl | rfl | rfl <;> rfl)
set_option maxRecDepth 20000 in
set_option maxHeartbeats 2000000 in
theorem cpmat_any {w : World} {m : MtD} (h : MtR w m) (hn : m.n ≤ 1048576) :
    Calls Try.prog 72 #[.agg #[.int .i64 m.R, .int .i64 m.C, .slice m.O m.n m.c]] w fun e w' => ∃ u c, e = .returned (.agg #[.int .i64 m.R, .int .i64 m.C, .slice u m.n c]) ∧ Own w' w.heap.size 84 1 (.slice u m.n c) m.n (fun i => .int .i8 (m.f i)) ∧ Below w.heap.size w w' := by
  have f1 := fresh_alloc w (.cells #[.int .i64 m.R, .int .i64 m.C, .slice m.O m.n m.c] 29)
  have HC : Hid (∀ z, Below w.heap.size w z → Calls Try.prog 74 #[.slice m.O m.n m.c] z fun e w' => ∃ u c, e = .returned (.slice u m.n c) ∧ Own w' z.heap.size 84 1 (.slice u m.n c) m.n (fun i => .int .i8 (m.f i)) ∧ Below z.heap.size z w') := fun z hz => cloneB_any (h.rd.fresh hz) (fun _ _ => rfl) hn
  have f0 := fresh_trans f1 (fresh_alloc (w.alloc (.cells #[.int .i64 m.R, .int .i64 m.C, .slice m.O m.n m.c] 29)) (.cells #[.int .i64 0, .int .i64 0, .slice none 0 0] 29))
  have R1 := World.rowIs_alloc3 w (.int .i64 m.R) (.int .i64 m.C) (.slice m.O m.n m.c) 29
  have R2 := World.rowIs_alloc3 (w.alloc (.cells #[.int .i64 m.R, .int .i64 m.C, .slice m.O m.n m.c] 29)) (.int .i64 0) (.int .i64 0) (.slice none 0 0) 29
  have HR1 := hidd (R1.alloc (.cells #[.int .i64 0, .int .i64 0, .slice none 0 0] 29))
  have HR2 : Hid (((w.alloc (.cells #[.int .i64 m.R, .int .i64 m.C, .slice m.O m.n m.c] 29)).alloc (.cells #[.int .i64 0, .int .i64 0, .slice none 0 0] 29)).rowIs (w.heap.size + 1) 29 3 (row3 (.int .i64 0) (.int .i64 0) (.slice none 0 0))) := hidd (by simpa using R2)
  clear R1 R2
  go_enter Try.func72, Try.ntmps72
  go_wp2_with fail
  refine (HC.out _ f0).mono ?_
  rintro e w1 ⟨u, c, rfl, ho, f2⟩
  have F1 := hidd (fresh_trans f0 f2)
  have q1 := row_fresh HR1.out f2
  have q2 := row_fresh HR2.out f2
  have HO := hidd ho
  have b0 : w1.cell? ⟨w.heap.size, 0, none⟩ = some (.int .i64 m.R) := q1.cell (i := 0) (by decide)
  have b1 : w1.cell? ⟨w.heap.size, 1, none⟩ = some (.int .i64 m.C) := q1.cell (i := 1) (by decide)
  have b2 : w1.cell? ⟨w.heap.size, 2, none⟩ = some (.slice m.O m.n m.c) := q1.cell (i := 2) (by decide)
  have z0 := q1.frozen
  have d0 : w1.cell? ⟨w.heap.size + 1, 0, none⟩ = some (.int .i64 0) := q2.cell (i := 0) (by decide)
  have d1 : w1.cell? ⟨w.heap.size + 1, 1, none⟩ = some (.int .i64 0) := q2.cell (i := 1) (by decide)
  have d2 : w1.cell? ⟨w.heap.size + 1, 2, none⟩ = some (.slice none 0 0) := q2.cell (i := 2) (by decide)
  have z1 := q2.frozen
  have hq2 := hidd q2
  have hs1 := F1.out.size
  clear q1 q2 HR1 HR2 f0 f1 f2 ho HC
  go_wp2
  have HQ := hidd ((((hq2.out.setOther (a := ⟨w.heap.size, 2, none⟩) (by show w.heap.size + 1 ≠ w.heap.size; omega) (.slice u m.n c)).set 0 (.int .i64 m.R)).set 1 (.int .i64 m.C)).set 2 (.slice u m.n c))
  refine bodyPost_ret (v := .agg #[.int .i64 m.R, .int .i64 m.C, .slice u m.n c]) ?_ ?_ ?_
  · refine results_cell_mid Try.results72 _ _ (w.heap.size + 1) [.int .i64 m.R, .int .i64 m.C, .slice u m.n c] _ rfl ?_ Try.underlying29 rfl (by kernel_rfl)
    intro j v hv
    match j, hv with
    | 0, hv => rw [← Option.some.inj hv]; exact HQ.out.cell (i := 0) (by decide)
    | 1, hv => rw [← Option.some.inj hv]; exact HQ.out.cell (i := 1) (by decide)
    | 2, hv => rw [← Option.some.inj hv]; exact HQ.out.cell (i := 2) (by decide)
    | j + 3, hv => cases hv
  · rfl
  · have hne : ∀ g, g < w.heap.size + 2 → (Value.slice u m.n c).ownBlock ≠ some g := fun g hg e => by
      have := (HO.out.lt g e).1
      simp at this
      omega
    refine ⟨u, c, rfl, (Own.weaken ((((HO.out.set (hne _ (by omega))).set (hne _ (by omega))).set (hne _ (by omega))).set (hne _ (by omega))) (by simp; omega)), ?_⟩
    exact ((((F1.out.setCell (Nat.le_refl _) _).setCell (Nat.le_succ _) _).setCell (Nat.le_succ _) _).setCell (Nat.le_succ _) _)
end Go.Proofs.Ytilghknalbhacaa
