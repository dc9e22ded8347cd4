import Derived.Test.YtjjfbpjejhjdiabDoorHD
import Derived.Test.YtjjfbpjejhjdiabDoorPMa
namespace Go.Proofs.YtjjfbpjejhjdiabDoor
open Go.RowKit Go.Shelf
attribute [local go_sem] Oper.semAt_some
/-! The iterator of Ranked, its tokens as natural numbers. -/
def toI (x : Nat × Int) : Int × Int := ((x.1 : Int), x.2)
def ordN (f : Nat → Int) (n : Nat) : List (Nat × Int) := (ordL f n).map fun x => (x.1.toNat, x.2)
theorem ordN_map (f : Nat → Int) (n : Nat) : (ordN f n).map toI = ordL f n := by
  unfold ordN
  rw [List.map_map]
  refine Eq.trans (List.map_congr_left (g := id) fun x hx => ?_) (List.map_id _)
  obtain ⟨i, _, rfl⟩ := ordL_mem.1 hx
  rfl
theorem ordN_len (f : Nat → Int) (n : Nat) : (ordN f n).length = n := by unfold ordN; rw [List.length_map, ordL_len]
def encN (x : Nat × Int) : Array Value := #[.int .i64 (x.1 : Int), .int .i64 x.2]
theorem getD_map (L : List (Nat × Int)) (k : Nat) (h : k < L.length) : (L.map toI).getD k (0, 0) = toI (L.getD k (0, 0)) := by
  rw [List.getD_eq_getElem?_getD, List.getD_eq_getElem?_getD, List.getElem?_map, List.getElem?_eq_getElem h]
  rfl
theorem abides_belowN {B : Nat} {J : List (Nat × Int) → World → Prop} (hJ : AbidesFrom B J) {s : List (Nat × Int)} {W W' : World} (h : J s W) (f : Below W.heap.size W W') : J s W' :=
  hJ s W W' none h (grown_of f) (fun r e => by cases e)
set_option maxRecDepth 100000 in
set_option maxHeartbeats 1600000 in
theorem iterN_in (F : Fence) (n : Nat) (hF : F.fn 53) (hro : F.round = none) (hn : 1 ≤ n) (l Bn g cap : Nat) (L : List (Nat × Int)) (hL : L.length ≤ 9223372036854775807) (J Jx : List (Nat × Int) → World → Prop)
    (W : World) (hJ : AbidesFrom W.heap.size J)
    (hY : ∀ pre x W, J pre W → pre.length < L.length → YieldAt F (n - 1) Tryd.prog l (encN x) W fun e W' => (e = .returned (.bool true) ∧ J (pre ++ [x]) W' ∧ KpB Bn g W W') ∨ (e = .returned (.bool false) ∧ Jx (pre ++ [x]) W'))
    (hBn : W.cell? ⟨Bn, 0, none⟩ = some (.slice (some ⟨g, 0, none⟩) L.length cap)) (hT : OrdAt W g (L.map toI)) (hg : g < W.heap.size) (h0 : J [] W) :
    CallsIn F n Tryd.prog 53 #[.func (.yield l) #[] #[], .pointer (some ⟨Bn, 0, none⟩)] W fun e W' => (∃ v, e = .returned v) ∧ ((∃ ys, ys = L ∧ J ys W') ∨ (∃ pre, pre <+: L ∧ Jx pre W')) := by
  refine callsIn_of_wp Tryd.func53 rfl hF ?_ hro
  simp only [Tryd.ntmps53, List.size_toArray, List.length_cons, List.length_nil, Nat.reduceAdd, Nat.reduceSub, Array.replicate_succ, Array.replicate_zero, List.push_toArray, List.append_toArray, List.nil_append, List.cons_append]
  have HT := hidd hT
  have HY := hidd hY
  have HJ0 := hidd hJ
  have hBl := lt_of_cell hBn
  clear hT hY hJ
  gi_wp2
  gi_loopw [7] (fun i wr => ∃ k : Nat, k ≤ L.length ∧ i = .int .i64 (k : Int) ∧ Hid (J (L.take k) wr) ∧ KpB Bn g W wr) (fun i _ => L.length - (intOf i).toNat)
  case atStart => exact ⟨0, Nat.zero_le _, by simp, by show J _ _; simpa using h0, KpB.refl _ _ _⟩
  case round =>
    obtain ⟨k, hk, rfl, HJ, hf⟩ := hrel
    by_cases hlt : k < L.length
    · obtain ⟨a, b, HE⟩ : ∃ a b, Hid ((a, b) = L.getD k (0, 0)) := ⟨(L.getD k (0, 0)).1, (L.getD k (0, 0)).2, rfl⟩
      have c1 := (HT.out.keep hf).fst k (by simpa using hlt)
      have c2 := (HT.out.keep hf).snd k (by simpa using hlt)
      rw [getD_map L k hlt, ← HE.out] at c1 c2
      simp only [toI] at c1 c2
      have HE2 : Hid (L.take k ++ [(a, b)] = L.take (k + 1)) := by
        show _ = _
        rw [List.take_add_one, HE.out, List.getD_eq_getElem?_getD, List.getElem?_eq_getElem hlt]
        rfl
      have hgl : g ≠ wr.heap.size := by have := hf.size; omega
      have hbl : Bn ≠ wr.heap.size := by have := hf.size; omega
      have i0 : (0 : Int) ≤ (k : Int) := by omega
      have i1 : (k : Int) < (L.length : Int) := by omega
      have HJ1 := hidd (abides_belowN HJ0.out HJ.out (fresh_alloc wr (.cells #[.int .i64 (a : Int), .int .i64 b] 87)))
      obtain ⟨fn, tmps, assign, body, hy, hR⟩ := HY.out (L.take k) (a, b) _ HJ1.out (by rw [List.length_take]; omega)
      unfold encN at hy
      have hk1 : KpB Bn g wr (wr.alloc (.cells #[.int .i64 (a : Int), .int .i64 b] 87)) := KpB.of_below (fresh_alloc _ _) (by have := hf.size; omega) (by have := hf.size; omega)
      gi_wp2
      refine hR.mono ?_
      rintro e W3 (⟨rfl, hJ3, hk3⟩ | ⟨rfl, hJx3⟩)
      · gi_wp2
        go_roundw
        case rel => exact ⟨k + 1, by omega, by go_num, by show J _ _; rw [← HE2.out]; exact hJ3, (hf.trans hk1).trans hk3⟩
        case measure => simp [intOf] <;> omega
      · gi_wp2
        refine bodyPost_ret (results_none rfl _ _ _) rfl ?_
        exact ⟨⟨_, rfl⟩, .inr ⟨_, by rw [HE2.out]; exact List.take_prefix _ _, hJx3⟩⟩
    · obtain rfl : k = L.length := by omega
      have HE : Hid (J L wr) := by have := HJ.out; rw [List.take_length] at this; exact this
      gi_wp2
      go_end0
      exact ⟨⟨_, rfl⟩, .inl ⟨_, rfl, HE.out⟩⟩
theorem iterN_stops (F : Fence) (n : Nat) (hF : F.fn 53) (hro : F.round = none) (hn : 1 ≤ n) (Bn g cap : Nat) (L : List (Nat × Int)) (hL : L.length ≤ 9223372036854775807) (w : World) (hBl : Bn < w.heap.size) (hg : g < w.heap.size)
    (hc : w.cell? ⟨Bn, 0, none⟩ = some (.slice (some ⟨g, 0, none⟩) L.length cap)) (hT : OrdAt w g (L.map toI)) :
    SeqStopsK F n Tryd.prog 53 #[.pointer (some ⟨Bn, 0, none⟩)] encN (KpB Bn g) (fun ys => ys = L) (fun ys => ys <+: L) L.length w := fun l J Jx W hW hJ _ hY h0 =>
  iterN_in F n hF hro hn l Bn g cap L hL J Jx W hJ hY ((hW.cell (p := ⟨Bn, 0, none⟩) hBl).trans hc) (hT.below hW hg) (Nat.lt_of_lt_of_le hg hW.size) h0
/-- one element of three cells more -/
theorem wpListIn_own3 {F : Fence} {fu : Nat} {P : Program} (w : World) {ops : Array Oper} {rest : List Oper} {o : Oper} {a : Act} {Q : Exit → Act → World → Prop}
    (hg : o.guard = none) (s x : Operand) (t : TypeId) (hop : o.op = Op.call { callee := Callee.builtin Builtin.append, args := #[s, x], argTypes := #[t, t] })
    (base : Nat) (e : TypeId) (z : Value) (bytes : Nat) (h1 : P.underlying t = some (.slice e)) (hinfo : (P.info? e).map (fun i => (i.zero, i.size, i.bytes)) = some (some z, 3, bytes)) (h6 : z.cells.size = 3)
    (v : Value) (n : Nat) (cs : Nat → Value) (hs : a.eval s = v) (hown : Own w base e 3 v n cs)
    (g c : Nat) (hx : a.eval x = .slice (some ⟨g, 0, none⟩) 1 c) (hc : ∀ j, j < 3 → w.cell? ⟨g, j, none⟩ = some (cs (n * 3 + j))) (h1c : ∀ j, j < 3 → (cs (n * 3 + j)).oneCell' = true)
    (b1 : n < 9223372036854775807) (b2 : (n + 1) * bytes ≤ 140737488355328) (hb : base ≤ w.heap.size)
    (hK : ∀ u c' w', Own w' base e 3 (.slice u (n + 1) c') (n + 1) cs → w.grownBy w' v.ownBlock → wpListIn F fu P ops Q rest (a.put o.dst (.slice u (n + 1) c')) w') : wpListIn F fu P ops Q (o :: rest) a w := by
  obtain ⟨i, hi, hz0, hz1, hz2⟩ := info_parts hinfo
  refine wpListIn_append_own w hg s x t hop base e i z 3 bytes h1 hi hz0 hz1 hz2 h6 (by decide) v n _ hs hown ⟨g, 0, none⟩ 1 c ((List.range (1 * 3)).map fun j => cs (n * 3 + j)) hx (by simp) ?_ ?_ (by unfold maxLen; omega) b2 hb ?_
  · intro j u hj
    rw [add_lit0]
    by_cases h : j < 3
    · simp [h] at hj; rw [hc j h, hj]
    · simp [h] at hj
  · intro u hu
    obtain ⟨j, hj, rfl⟩ := List.mem_map.1 hu
    exact h1c j (by simpa using hj)
  · intro v' w' h2 h3 _
    have ho : Own w' base e 3 v' (n + 1) cs := by
      unfold Own
      rw [← news_len n 1 3 cs]
      exact h2
    obtain ⟨u, c', rfl, _⟩ := ho.rd
    exact hK u c' w' ho h3
end Go.Proofs.YtjjfbpjejhjdiabDoor
