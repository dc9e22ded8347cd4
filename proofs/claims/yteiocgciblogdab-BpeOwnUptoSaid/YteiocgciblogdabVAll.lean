import Derived.Test.YteiocgciblogdabVRng
namespace Go.Proofs.Yteiocgciblogdab
open Go.RowKit Go.Shelf
attribute [local go_sem] Oper.semAt_some
/-! Clone, All, and what All's function hands over. -/
theorem own_empty (w : World) (t : TypeId) (cs : Nat → Value) : Own (w.alloc (.cells #[] t)) w.heap.size t 1 (.slice (some ⟨w.heap.size, 0, none⟩) 0 0) 0 cs := by
  refine ⟨by simp, .inr ⟨w.heap.size, 0, #[], rfl, Nat.le_refl _, ?_, Nat.le_refl _, by simp [maxLen], by simp, by simp⟩⟩
  exact Go.Deep.blk_alloc_new _ _
theorem eqNil_some (a : Addr) (n k : Nat) (w : World) : (binOp .eql 22 (.slice (some a) n k) (.slice none 0 0)).run Try.prog w = .ok (.bool false) w := by
  exact Lib.run_eql_slice_nil (P := Try.prog) w 22 5 (some a) n k 0 0 Try.underlying22
theorem eqNil_none (n k : Nat) (w : World) : (binOp .eql 22 (.slice none n k) (.slice none 0 0)).run Try.prog w = .ok (.bool true) w := by
  exact Lib.run_eql_slice_nil (P := Try.prog) w 22 5 none n k 0 0 Try.underlying22
set_option maxHeartbeats 2000000 in
theorem clone_any {w : World} {base : Nat} {u : Value} {l : List Int} (h : PieceAt w base u l) (hl : l.length ≤ 1000) :
    Calls Try.prog 31 #[u] w fun e w' => ∃ v, e = .returned v ∧ PieceAt w' w.heap.size v l ∧ Below w.heap.size w w' := by
  obtain ⟨g, k, rfl, h1, h2, h3⟩ := h
  by_cases h0 : 0 < l.length
  · obtain ⟨b, rfl, hb, hlt, hc⟩ := h3 h0
    have HO := hidd (own_empty w 5 (fun j => .int .u8 (l.getD j 0)))
    have HC : Hid (∀ j, j < l.length * 1 → (w.alloc (.cells #[] 5)).cell? ⟨b, j, none⟩ = some ((fun j => Value.int .u8 (l.getD j 0)) (0 * 1 + j))) := fun j hj => by
      rw [fresh_cell (fresh_alloc _ _) (hc j (by omega))]; simp
    clear h3 hc
    have hq := eqNil_some ⟨b, 0, none⟩ l.length k
    go_enter Try.func31, Try.ntmps31
    go_wp2_with (at_builtin; refine wpList_app _ rfl _ _ 22 rfl w.heap.size 5 (.int .u8 0) 1 1 Try.underlying22 infoB rfl (by decide) _ 0 (fun j => .int .u8 (l.getD j 0)) rfl HO.out b l.length k rfl HC.out (fun _ _ => rfl) h0 (by unfold maxLen; omega) (by omega) (by simp) ?_)
    intro v' w6 hown' happ
    have hf6 := happ.below (fresh_alloc w _) HO.out (Nat.le_refl _) (by simp)
    have hown2 : Own w6 w.heap.size 5 1 v' l.length (fun j => .int .u8 (l.getD j 0)) := by simpa using hown'
    obtain ⟨g9, k9, rfl, hg9, hP9⟩ := piece_own hown2 h0
    have HP := hidd hP9
    clear happ hown' hown2 hP9
    go_wp2
    go_ret
    exact ⟨_, rfl, HP.out, hf6⟩
  · have e0 : l = [] := by cases l with
      | nil => rfl
      | cons a r => simp at h0
    subst e0
    obtain ⟨i0, hi0, _, _, _⟩ := info_parts infoB
    cases g with
    | none =>
      have hq := eqNil_none 0 k
      go_enter Try.func31, Try.ntmps31
      go_wp2
      go_ret
      exact ⟨_, rfl, PieceAt.nil _ _, Below.refl _ _⟩
    | some a =>
      have hq := eqNil_some a 0 k
      go_enter Try.func31, Try.ntmps31
      go_wp2_with (at_builtin; refine Lib.wpList_append_run _ rfl _ _ _ _ rfl _ _ rfl rfl _ _ (run_append_zero _ 22 _ 5 Try.underlying22 hi0 _ (some a) 0 0 k (Nat.le_refl _)) ?_)
      all_goals (go_ret; exact ⟨_, rfl, ⟨_, 0, rfl, Nat.le_refl _, by simp [maxLen], fun h => absurd h (by simp)⟩, fresh_alloc _ _⟩)
/-- What a round keeps: the blocks from base up to n₁. -/
def KpS (base n₁ : Nat) (W W' : World) : Prop := W.heap.size ≤ W'.heap.size ∧ ∀ b, base ≤ b → b < n₁ → W'.heap[b]? = W.heap[b]?
theorem KpS.trans {base n₁ : Nat} {A B C : World} (h : KpS base n₁ A B) (k : KpS base n₁ B C) : KpS base n₁ A C := ⟨Nat.le_trans h.1 k.1, fun b h1 h2 => (k.2 b h1 h2).trans (h.2 b h1 h2)⟩
theorem KpS.refl (base n₁ : Nat) (W : World) : KpS base n₁ W W := ⟨Nat.le_refl _, fun _ _ _ => rfl⟩
theorem KpS.of_fresh {base n₁ : Nat} {W W' : World} (h : Below W.heap.size W W') (hn : n₁ ≤ W.heap.size) : KpS base n₁ W W' := ⟨h.size, fun b _ h2 => h.block b (by omega)⟩
theorem KpS.cell {base n₁ : Nat} {W W' : World} (h : KpS base n₁ W W') {b o : Nat} {v : Value} (h1 : base ≤ b) (h2 : b < n₁) (hc : W.cell? ⟨b, o, none⟩ = some v) : W'.cell? ⟨b, o, none⟩ = some v := by
  rw [← hc]; unfold World.cell?; rw [h.2 b h1 h2]
/-- what is handed over in round k -/
def handed (d : VD) (n₁ : Nat) (k : Nat) (args : Array Value) (W : World) : Prop := ∃ u, args = #[.int .i64 (k : Int), u] ∧ PieceAt W n₁ u (d.pc k)
set_option maxRecDepth 100000 in
set_option maxHeartbeats 4000000 in
theorem all_hands {d : VD} {w : World} {base n₁ Ba N : Nat} {v : Value} {A : Nat → Value} (hN : 0 < N) (hN2 : N ≤ 64) (hlen : ∀ t, t < N → (d.pc t).length ≤ 16) (hT : TabAt w base d v N A) (hn : n₁ = w.heap.size) (hc : w.cell? ⟨Ba, 0, none⟩ = some v) :
    Hands Try.prog 30 #[.pointer (some ⟨Ba, 0, none⟩)] N (handed d n₁) (KpS base n₁) w := by
  intro l J Jx W hW hJ hY h0
  obtain ⟨g, cap, rfl, hg1, hg2, _⟩ := hT.get hN
  have hA : ∀ t, t < N → w.cell? ⟨g, t, none⟩ = some (A t) := fun t ht => by
    obtain ⟨ao, cap', e, hr⟩ := hT.own.rd
    cases e
    obtain ⟨b, off, e, hcs⟩ := hr.one hN
    cases e
    simpa using hcs t ht
  have hc' := fresh_cell hW hc
  have HA := hidd (fun t ht => fresh_cell hW (hA t ht))
  have HP := hidd (fun t ht => (hT.at_ t ht).fresh hW)
  have HB := hidd (show ∀ t, t < N → 0 < (d.pc t).length → ∀ b, (∃ c, A t = .slice (some ⟨b, 0, none⟩) (d.pc t).length c) → b < n₁ from fun t ht h0 b ⟨c, e⟩ => by
    obtain ⟨u, c', e', _, _, h3⟩ := hT.at_ t ht
    obtain ⟨b', e2, _, hl, _⟩ := h3 h0
    rw [e2] at e'
    rw [e] at e'
    cases e'
    rw [hn]; exact hl)
  have HJ := hidd hJ
  have HY := hidd hY
  have HLN := hidd hlen
  have hWn : n₁ ≤ W.heap.size := by rw [hn]; exact hW.size
  rw [← hn] at hg2
  clear hA hT hc hW hJ hY hlen hn
  refine callsIn_of_wp Try.func30 rfl trivial ?_ rfl
  simp only [Try.ntmps30, List.size_toArray, List.length_cons, List.length_nil, Nat.reduceAdd, Nat.reduceSub, Array.replicate_succ, Array.replicate_zero, List.push_toArray, List.append_toArray, List.nil_append, List.cons_append]
  gi_wp2
  gi_loopw [7] (fun i wr => ∃ k : Nat, k ≤ N ∧ i = .int .i64 k ∧ J k wr ∧ KpS base n₁ W wr) (fun i _ => N - (intOf i).toNat)
  case atStart => exact ⟨0, Nat.zero_le _, rfl, h0, KpS.refl _ _ _⟩
  case round =>
    obtain ⟨k, hk, rfl, hJs, hKp⟩ := hrel
    by_cases hlt : k < N
    · have hck := hKp.cell hg1 hg2 (HA.out k hlt)
      have hPk : PieceAt wr base (A k) (d.pc k) := by
        obtain ⟨u, c, eU, h1, h2, h3⟩ := HP.out k hlt
        refine ⟨u, c, eU, h1, h2, fun h0 => ?_⟩
        obtain ⟨b, e, hb, hl, hcs⟩ := h3 h0
        have hbn := HB.out k hlt h0 b ⟨c, by rw [eU, e]⟩
        exact ⟨b, e, hb, Nat.lt_of_lt_of_le hl hKp.1, fun j hj => hKp.cell hb hbn (hcs j hj)⟩
      have HPk := hidd hPk
      have hl16 := HLN.out k hlt
      obtain ⟨u, c, eA, _⟩ := hPk
      rw [eA] at hck
      have HC := hidd (clone_any HPk.out (by omega))
      rw [eA] at HC
      have hwn : n₁ ≤ wr.heap.size := Nat.le_trans hWn hKp.1
      gi_wp2_with (refine ⟨trivial, ?_⟩; gi_at_call 31; refine (callsIn_wide.2 HC.out).mono ?_; rintro e w9 ⟨v9, rfl, hP9, hf9⟩; have hJ9 := HJ.out k wr w9 hJs hf9; obtain ⟨fn, tmps, assign, body, hy, hR⟩ := HY.out k #[.int .i64 (k : Int), v9] w9 hlt hJ9 ⟨v9, rfl, hP9.weaken hwn⟩)
      refine hR.mono ?_
      have hK9 := hKp.trans (KpS.of_fresh hf9 hwn)
      clear hy hR hJ9 hf9 hP9
      rintro e W3 (⟨rfl, hJ3, hk3⟩ | ⟨rfl, hJx3⟩)
      · gi_wp2
        go_roundw
        case rel => exact ⟨k + 1, by omega, by go_num, hJ3, hK9.trans hk3⟩
        case measure => simp [intOf]; omega
      · gi_wp2
        refine bodyPost_ret (results_none rfl _ _ _) rfl ?_
        exact ⟨⟨_, rfl⟩, .inr ⟨k + 1, by omega, hJx3⟩⟩
    · obtain rfl : k = N := by omega
      gi_wp2
      go_end0
      exact ⟨⟨_, rfl⟩, .inl hJs⟩
set_option maxRecDepth 100000 in
set_option maxHeartbeats 4000000 in
theorem all_hands_none {w : World} {base n₁ Ba : Nat} (G : Nat → Array Value → World → Prop) (hc : w.cell? ⟨Ba, 0, none⟩ = some (.slice none 0 0)) :
    Hands Try.prog 30 #[.pointer (some ⟨Ba, 0, none⟩)] 0 G (KpS base n₁) w := by
  intro l J Jx W hW hJ hY h0
  have hc' := fresh_cell hW hc
  clear hc hW hJ hY
  refine callsIn_of_wp Try.func30 rfl trivial ?_ rfl
  simp only [Try.ntmps30, List.size_toArray, List.length_cons, List.length_nil, Nat.reduceAdd, Nat.reduceSub, Array.replicate_succ, Array.replicate_zero, List.push_toArray, List.append_toArray, List.nil_append, List.cons_append]
  gi_wp2
  gi_loopw [7] (fun i wr => i = .int .i64 0 ∧ J 0 wr) (fun _ _ => 0)
  case atStart => exact ⟨rfl, h0⟩
  case round =>
    obtain ⟨rfl, hJs⟩ := hrel
    gi_wp2
    go_end0
    exact ⟨⟨_, rfl⟩, .inl hJs⟩
theorem mkf (fn : Fn) (first cap : Array Value) (w : World) : (Instr.makeFunc fn first cap).run Try.prog w = .ok (.func fn first cap) w := by simp [Instr.makeFunc]
set_option maxHeartbeats 2000000 in
theorem all_any {w : World} {d : VD} {bo po : Option Addr} {cb cp : Nat} (hb : RdA w bo 1 d.nb cb (fun i => .int .u8 (d.B i))) (hp : RdA w po 2 d.np cp (tcs d.P d.Q)) :
    Calls Try.prog 14 #[.agg #[.slice bo d.nb cb, .slice po d.np cp]] w fun e w' => ∃ Ba, e = .returned (.func (.func 30) #[] #[.pointer (some ⟨Ba, 0, none⟩)]) ∧
      ((d.Right ∧ ∃ v A, TabAt w' w.heap.size d v (d.nb + 1 + d.np) A ∧ w'.cell? ⟨Ba, 0, none⟩ = some v) ∨ (¬ d.Right ∧ w'.cell? ⟨Ba, 0, none⟩ = some (.slice none 0 0))) ∧ w.heap.size ≤ Ba ∧ Below w.heap.size w w' := by
  have hf0 := fresh_alloc w (.cells #[.slice bo d.nb cb, .slice po d.np cp] 25)
  have hmf := mkf
  go_enter Try.func14, Try.ntmps14
  go_wp2_with fail
  refine (pieces_any (hb.fresh hf0) (hp.fresh hf0)).mono ?_
  rintro e w2 ⟨h, hf2⟩
  have hF := fresh_trans hf0 hf2
  rcases h with ⟨hR, v, A, rfl, hT⟩ | ⟨hR, rfl⟩
  · obtain ⟨ao, cap, rfl, _⟩ := hT.own.rd
    have HT := hidd ((hT.fresh (fresh_alloc w2 (.cells #[.slice ao (d.nb + 1 + d.np) cap] 38))).weaken hf0.size)
    have hF3 := fresh_trans hF (fresh_alloc w2 (.cells #[.slice ao (d.nb + 1 + d.np) cap] 38))
    clear hT
    go_wp2
    go_ret
    exact ⟨w2.heap.size, rfl, .inl ⟨hR, _, A, HT.out, new_cell _ _ _⟩, hF.size, hF3⟩
  · have hF3 := fresh_trans hF (fresh_alloc w2 (.cells #[.slice none 0 0] 38))
    go_wp2
    go_ret
    exact ⟨w2.heap.size, rfl, .inr ⟨hR, new_cell _ _ _⟩, hF.size, hF3⟩
end Go.Proofs.Yteiocgciblogdab
