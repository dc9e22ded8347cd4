import Derived.WalkKit
import Derived.ProofKit
import Derived.OpenShut
import Derived.Deep.Matrix
import Derived.Deep.SlicePairs
import Derived.SizedLaws
import Derived.Test.YtilghknalbhacaaRows
import Derived.Test.YtilghknalbhacaaCpQm
import Derived.Test.YtilghknalbhacaaCgZ
namespace Go.Proofs.Ytilghknalbhacaa
open Go.ChangeShapes Go.WideShapes Go.ChangeAt Go.RowKit Go.Deep
/-! Weights that came in. -/
noncomputable def rB {H : Type} (t : TypeId) (d : DataW H) : Nat := (d.weights Try.prog t).foldr max 0
theorem foldr_max : ∀ (l : List Nat) (q : Nat), q ∈ l → q ≤ l.foldr max 0
  | [], _, h => absurd h (by simp)
  | x :: r, q, h => by
    rcases List.mem_cons.1 h with rfl | h
    · exact Nat.le_max_left _ _
    · exact Nat.le_trans (foldr_max r q h) (Nat.le_max_right _ _)
theorem max_foldr {m : Nat} : ∀ (l : List Nat), (∀ q ∈ l, q ≤ m) → l.foldr max 0 ≤ m
  | [], _ => Nat.zero_le _
  | x :: r, h => Nat.max_le.2 ⟨h x (by simp), max_foldr r (fun q hq => h q (by simp [hq]))⟩
theorem rb_of {H : Type} {t : TypeId} {d : DataW H} {m : Nat} (h : ∀ q ∈ d.weights Try.prog t, q ≤ m) : rB t d ≤ m := max_foldr _ h
theorem rb_sub {H : Type} {t u : TypeId} {d e : DataW H} (h : ∀ q ∈ d.weights Try.prog t, q ∈ e.weights Try.prog u) : rB t d ≤ rB u e := rb_of (fun q hq => foldr_max _ q (h q hq))
theorem wmem_all {H : Type} {P : Program} {t : TypeId} {d : DataW H} : ∀ {l : List (DataW H)}, d ∈ l → ∀ n ∈ d.weights P t, n ∈ DataW.weightsAll P t l
  | [], h, _, _ => absurd h (by simp)
  | x :: r, h, n, hn => by
    simp only [DataW.weightsAll, List.mem_append]
    rcases List.mem_cons.1 h with rfl | h
    · exact .inl hn
    · exact .inr (wmem_all h n hn)
theorem rb_sl {H : Type} {t e : TypeId} {k n : Nat} {a b : List (DataW H)} (hu : Try.prog.underlying t = some (.slice e)) (hk : Try.prog.bytesOf e = k) (h : a.length = n) : n * k ≤ rB t (.slice a b) := by
  have h1 : (a.length + b.length) * Try.prog.bytesOf e ∈ (DataW.slice a b : DataW H).weights Try.prog t := by simp [DataW.weights, hu]
  have h2 := foldr_max _ _ h1
  rw [hk, h] at h2
  exact Nat.le_trans (Nat.mul_le_mul_right k (Nat.le_add_right n b.length)) h2
theorem rb_in {H : Type} {t e : TypeId} {a b : List (DataW H)} {d : DataW H} (hu : Try.prog.underlying t = some (.slice e)) (h : d ∈ a) : rB e d ≤ rB t (.slice a b) := rb_sub (fun q hq => by
  simp only [DataW.weights, hu]
  exact List.mem_cons_of_mem _ (List.mem_append.2 (.inl (wmem_all h q hq))))
theorem rb_agM {H : Type} {ys : List (DataW H × List MemPlace)} {i : Nat} {ti : TypeId} {y : DataW H × List MemPlace} (hi : ([3, 3, 27] : List TypeId)[i]? = some ti) (h : ys[i]? = some y) : rB ti y.1 ≤ rB 29 (.agg (ys.map (·.1))) := rb_sub (fun q hq => by
  simp only [DataW.weights, Try.underlying29]
  exact DataW.weights_mem_each (j := i) (t := ti) hi (by rw [List.getElem?_map, h]; rfl) q hq)
theorem rb_agL {H : Type} {ys : List (DataW H × List MemPlace)} {i : Nat} {ti : TypeId} {y : DataW H × List MemPlace} (hi : ([27, 27, 29, 29, 29, 29, 29, 29, 29, 65] : List TypeId)[i]? = some ti) (h : ys[i]? = some y) : rB ti y.1 ≤ rB 67 (.agg (ys.map (·.1))) := rb_sub (fun q hq => by
  simp only [DataW.weights, Try.underlying67]
  exact DataW.weights_mem_each (j := i) (t := ti) hi (by rw [List.getElem?_map, h]; rfl) q hq)
theorem rb_agW {H : Type} {ys : List (DataW H × List MemPlace)} {i : Nat} {ti : TypeId} {y : DataW H × List MemPlace} (hi : ([23, 29, 30, 31, 27, 29, 32] : List TypeId)[i]? = some ti) (h : ys[i]? = some y) : rB ti y.1 ≤ rB 34 (.agg (ys.map (·.1))) := rb_sub (fun q hq => by
  simp only [DataW.weights, Try.underlying34]
  exact DataW.weights_mem_each (j := i) (t := ti) hi (by rw [List.getElem?_map, h]; rfl) q hq)
theorem nb_I8 : Try.prog.bytesOf 84 = 1 := by kernel_rfl
theorem nb_TURN : Try.prog.bytesOf 97 = 16 := by kernel_rfl
theorem nb_LAYER : Try.prog.bytesOf 67 = 384 := by kernel_rfl
theorem nb_MAT : Try.prog.bytesOf 29 = 40 := by kernel_rfl
def LyK (l : LyD) (B : Nat) : Prop := l.n1.n ≤ B ∧ l.n2.n ≤ B ∧ l.q.n ≤ B ∧ l.k.n ≤ B ∧ l.v.n ≤ B ∧ l.o.n ≤ B ∧ l.g.n ≤ B ∧ l.u.n ≤ B ∧ l.d.n ≤ B
theorem LyK.up {l : LyD} {B C : Nat} (h : LyK l B) (k : B ≤ C) : LyK l C := by
  obtain ⟨h1, h2, h3, h4, h5, h6, h7, h8, h9⟩ := h
  exact ⟨Nat.le_trans h1 k, Nat.le_trans h2 k, Nat.le_trans h3 k, Nat.le_trans h4 k, Nat.le_trans h5 k, Nat.le_trans h6 k, Nat.le_trans h7 k, Nat.le_trans h8 k, Nat.le_trans h9 k⟩
theorem wadd_lit (b off j : Nat) : (⟨b, off, none⟩ : Addr).add j = ⟨b, off + j, none⟩ := by unfold Addr.add; split <;> simp_all
theorem wplain_addr {w : World} {a : Addr} {v : Value} (h : w.cell? (a.add 0) = some v) : ∃ b off, a = ⟨b, off, none⟩ := by
  obtain ⟨b, off, sp⟩ := a
  cases sp with
  | none => exact ⟨b, off, rfl⟩
  | some x =>
    have e : (⟨b, off, some x⟩ : Addr).add 0 = ⟨b, off, some x⟩ := by unfold Addr.add; simp
    rw [e] at h
    unfold World.cell? at h
    split at h <;> simp at h
theorem parts2 {α : Type} {l : List α} (h : l.length = 2) : ∃ c0 c1, l = [c0, c1] :=
  match l, h with
  | [c0, c1], _ => ⟨c0, c1, rfl⟩
theorem parts3 {α : Type} {l : List α} (h : l.length = 3) : ∃ c0 c1 c2, l = [c0, c1, c2] :=
  match l, h with
  | [c0, c1, c2], _ => ⟨c0, c1, c2, rfl⟩
theorem parts7 {α : Type} {l : List α} (h : l.length = 7) : ∃ c0 c1 c2 c3 c4 c5 c6, l = [c0, c1, c2, c3, c4, c5, c6] :=
  match l, h with
  | [c0, c1, c2, c3, c4, c5, c6], _ => ⟨c0, c1, c2, c3, c4, c5, c6, rfl⟩
theorem parts8 {α : Type} {l : List α} (h : l.length = 8) : ∃ c0 c1 c2 c3 c4 c5 c6 c7, l = [c0, c1, c2, c3, c4, c5, c6, c7] :=
  match l, h with
  | [c0, c1, c2, c3, c4, c5, c6, c7], _ => ⟨c0, c1, c2, c3, c4, c5, c6, c7, rfl⟩
theorem parts10 {α : Type} {l : List α} (h : l.length = 10) : ∃ c0 c1 c2 c3 c4 c5 c6 c7 c8 c9, l = [c0, c1, c2, c3, c4, c5, c6, c7, c8, c9] :=
  match l, h with
  | [c0, c1, c2, c3, c4, c5, c6, c7, c8, c9], _ => ⟨c0, c1, c2, c3, c4, c5, c6, c7, c8, c9, rfl⟩
theorem parts18 {α : Type} {l : List α} (h : l.length = 18) : ∃ c0 c1 c2 c3 c4 c5 c6 c7 c8 c9 c10 c11 c12 c13 c14 c15 c16 c17, l = [c0, c1, c2, c3, c4, c5, c6, c7, c8, c9, c10, c11, c12, c13, c14, c15, c16, c17] :=
  match l, h with
  | [c0, c1, c2, c3, c4, c5, c6, c7, c8, c9, c10, c11, c12, c13, c14, c15, c16, c17], _ => ⟨c0, c1, c2, c3, c4, c5, c6, c7, c8, c9, c10, c11, c12, c13, c14, c15, c16, c17, rfl⟩
theorem parts30 {α : Type} {l : List α} (h : l.length = 30) : ∃ c0 c1 c2 c3 c4 c5 c6 c7 c8 c9 c10 c11 c12 c13 c14 c15 c16 c17 c18 c19 c20 c21 c22 c23 c24 c25 c26 c27 c28 c29, l = [c0, c1, c2, c3, c4, c5, c6, c7, c8, c9, c10, c11, c12, c13, c14, c15, c16, c17, c18, c19, c20, c21, c22, c23, c24, c25, c26, c27, c28, c29] :=
  match l, h with
  | [c0, c1, c2, c3, c4, c5, c6, c7, c8, c9, c10, c11, c12, c13, c14, c15, c16, c17, c18, c19, c20, c21, c22, c23, c24, c25, c26, c27, c28, c29], _ => ⟨c0, c1, c2, c3, c4, c5, c6, c7, c8, c9, c10, c11, c12, c13, c14, c15, c16, c17, c18, c19, c20, c21, c22, c23, c24, c25, c26, c27, c28, c29, rfl⟩
theorem nc_23 : Try.prog.cellsOf 23 = 8 := by kernel_rfl
theorem nc_27 : Try.prog.cellsOf 27 = 1 := by kernel_rfl
theorem nc_29 : Try.prog.cellsOf 29 = 3 := by kernel_rfl
theorem nc_30 : Try.prog.cellsOf 30 = 1 := by kernel_rfl
theorem nc_31 : Try.prog.cellsOf 31 = 1 := by kernel_rfl
theorem nc_32 : Try.prog.cellsOf 32 = 1 := by kernel_rfl
theorem nc_34 : Try.prog.cellsOf 34 = 18 := by kernel_rfl
theorem nc_67 : Try.prog.cellsOf 67 = 30 := by kernel_rfl
theorem nc_97 : Try.prog.cellsOf 97 = 2 := by kernel_rfl
theorem nc_65 : Try.prog.cellsOf 65 = 7 := by kernel_rfl
theorem nc_3 : Try.prog.cellsOf 3 = 1 := by kernel_rfl
theorem nc_2 : Try.prog.cellsOf 2 = 1 := by kernel_rfl
theorem nc_84 : Try.prog.cellsOf 84 = 1 := by kernel_rfl
section
variable {H : Type} {enc : TypeId × Value → H} {w : World} {base : Nat} {sp : Nat → Bool} {held : Bool}
theorem open_ls {fuel : Nat} {cs : List Value} {x : DataW H × List MemPlace} (h : DataW.trod enc Try.prog w base sp held fuel 27 cs = some x) : ∃ l : LsD, cs = [.slice l.O l.n l.c] ∧ LsR w l ∧ l.n ≤ rB 27 x.1 := by
  rcases open_ints Try.underlying27 Try.underlying84 nc_84 h with ⟨hcs, hx⟩ | ⟨a, len, cap, zs, hcs, _, hl, hm, hz, hx, hcell, hwz⟩
  · exact ⟨⟨none, 0, 0, fun _ => 0⟩, hcs, ⟨⟨Nat.le_refl _, Nat.zero_le _, fun h => absurd h (by show ¬ 0 < 0; omega)⟩, fun i hi => absurd hi (by show ¬ i < 0; omega)⟩, Nat.zero_le _⟩
  · have hlz : len ≤ zs.length := by rw [hz]; split <;> omega
    refine ⟨⟨some a, len, cap, fun i => zs.getD i 0⟩, hcs, ⟨⟨hl, hm, fun h0 => ?_⟩, fun i hi => ?_⟩, by rw [hx]; exact Nat.le_trans (Nat.le_of_eq (Nat.mul_one len).symm) (rb_sl Try.underlying27 nb_I8 (by unfold lits; rw [List.length_map, List.length_take]; show min len zs.length = len; omega))⟩
    · have h0' : 0 < len := h0
      have h1 := hcell 0 (by omega)
      obtain ⟨b, off, rfl⟩ := wplain_addr h1
      refine ⟨b, off, rfl, fun j hj => ?_⟩
      have hj' : j < len * 1 := hj
      have := hcell j (by omega)
      rwa [wadd_lit] at this
    · have hi' : i < len := hi
      have h9 := hwz (zs.getD i 0) (by
        rw [List.getD_eq_getElem?_getD, List.getElem?_eq_getElem (by omega)]
        exact List.getElem_mem _)
      exact bounds_i8 h9
theorem some_of {α : Type} {xs : List α} {n i : Nat} (h : xs.length = n) (hi : i < n) {y : Option α} (e : y = xs[i]?) : ∃ v, y = some v ∧ xs[i]? = some v := ⟨xs[i], by rw [e, List.getElem?_eq_getElem (by omega)], by rw [List.getElem?_eq_getElem (by omega)]⟩
theorem open_mat {fuel : Nat} {cs : List Value} {x : DataW H × List MemPlace} (h : DataW.trod enc Try.prog w base sp held fuel 29 cs = some x) : ∃ m : MtD, cs = mtL m ∧ MtR w m ∧ m.n ≤ rB 29 x.1 := by
  obtain ⟨ys, n, rfl, rfl, hl, hlen, hf⟩ := DataW.trod_struct Try.underlying29 h
  have e0 : DataW.trod enc Try.prog w base sp held n 3 ((cs.drop 0).take (Try.prog.cellsOf 3)) = ys[0]? := hf 0 _ rfl
  have e1 : DataW.trod enc Try.prog w base sp held n 3 ((cs.drop 1).take (Try.prog.cellsOf 3)) = ys[1]? := hf 1 _ rfl
  have e2 : DataW.trod enc Try.prog w base sp held n 27 ((cs.drop 2).take (Try.prog.cellsOf 27)) = ys[2]? := hf 2 _ rfl
  rw [nc_29] at hl
  rw [nc_3] at e0 e1
  rw [nc_27] at e2
  obtain ⟨c0, c1, c2, rfl⟩ := parts3 hl
  obtain ⟨y0, e0, g0⟩ := some_of (show ys.length = 3 from hlen) (by decide) e0
  obtain ⟨y1, e1, g1⟩ := some_of (show ys.length = 3 from hlen) (by decide) e1
  obtain ⟨y2, e2, g2⟩ := some_of (show ys.length = 3 from hlen) (by decide) e2
  replace e0 : DataW.trod enc Try.prog w base sp held n 3 [c0] = some y0 := e0
  replace e1 : DataW.trod enc Try.prog w base sp held n 3 [c1] = some y1 := e1
  replace e2 : DataW.trod enc Try.prog w base sp held n 27 [c2] = some y2 := e2
  obtain ⟨R, q0, _, _⟩ := DataW.trod_int Try.underlying3 e0
  obtain ⟨C, q1, _, _⟩ := DataW.trod_int Try.underlying3 e1
  obtain ⟨l, q2, hr, hn⟩ := open_ls e2
  simp only [List.cons.injEq, and_true] at q0 q1 q2
  subst q0 q1 q2
  exact ⟨⟨R, C, l.O, l.n, l.c, l.f⟩, rfl, ⟨hr.rd, hr.bd⟩, Nat.le_trans hn (rb_agM (i := 2) rfl g2)⟩
theorem open_turns {fuel : Nat} {cs : List Value} {x : DataW H × List MemPlace} (h : DataW.trod enc Try.prog w base sp held fuel 30 cs = some x) : ∃ O n c C S, cs = [.slice O n c] ∧ RdA w O 2 n c (tcs C S) ∧ n * 16 ≤ rB 30 x.1 := by
  rcases open_slice_pairs Try.underlying30 Try.underlying97 nc_97 rfl rfl nc_2 nc_2 h with ⟨hcs, _⟩ | ⟨a, len, cap, m, n, V0, V1, D0, D1, P0, P1, hcs, _, hl, hm, hmm, hx, hc⟩
  · exact ⟨none, 0, 0, fun _ => 0, fun _ => 0, hcs, ⟨Nat.le_refl _, Nat.zero_le _, fun h => absurd h (by omega)⟩, by omega⟩
  · have hlm : len ≤ m := by rw [hmm]; split <;> omega
    refine ⟨some a, len, cap, fun i => intOf (V0 i), fun i => intOf (V1 i), hcs, ⟨hl, hm, fun h0 => ?_⟩, by rw [hx]; exact rb_sl Try.underlying30 nb_TURN (by simp)⟩
    have k0 := (hc 0 (by omega)).1
    obtain ⟨b, off, rfl⟩ := wplain_addr k0
    refine ⟨b, off, rfl, fun j hj => ?_⟩
    obtain ⟨c0, c1, t0, t1⟩ := hc (j / 2) (by omega)
    obtain ⟨z0, q0, _, _⟩ := DataW.trod_int Try.underlying2 t0
    obtain ⟨z1, q1, _, _⟩ := DataW.trod_int Try.underlying2 t1
    simp only [List.cons.injEq, and_true] at q0 q1
    rw [wadd_lit] at c0 c1
    unfold tcs
    by_cases e : j % 2 = 0
    · rw [if_pos e]
      have : off + j = off + j / 2 * 2 := by omega
      rw [this, c0]
      show _ = some (Value.int .i64 (intOf (V0 (j / 2))))
      rw [q0]
      rfl
    · rw [if_neg e]
      have : off + j = off + (j / 2 * 2 + 1) := by omega
      rw [this, c1]
      show _ = some (Value.int .i64 (intOf (V1 (j / 2))))
      rw [q1]
      rfl
set_option maxRecDepth 20000 in
theorem open_shifts {fuel : Nat} {cs : List Value} {x : DataW H × List MemPlace} (h : DataW.trod enc Try.prog w base sp held fuel 65 cs = some x) : ∃ s : Nat → Int, cs = [.int .i64 (s 0), .int .i64 (s 1), .int .i64 (s 2), .int .i64 (s 3), .int .i64 (s 4), .int .i64 (s 5), .int .i64 (s 6)] := by
  obtain ⟨ys, n, rfl, rfl, hl, hlen, hf⟩ := DataW.trod_array Try.underlying65 h
  rw [nc_65] at hl
  obtain ⟨c0, c1, c2, c3, c4, c5, c6, rfl⟩ := parts7 hl
  have e0 := hf 0 (by decide)
  rw [nc_3] at e0
  obtain ⟨y0, e0, g0⟩ := some_of hlen (by decide) e0
  replace e0 : DataW.trod enc Try.prog w base sp held n 3 [c0] = some y0 := e0
  obtain ⟨s0, q0, _, _⟩ := DataW.trod_int Try.underlying3 e0
  simp only [List.cons.injEq, and_true] at q0
  have e1 := hf 1 (by decide)
  rw [nc_3] at e1
  obtain ⟨y1, e1, g1⟩ := some_of hlen (by decide) e1
  replace e1 : DataW.trod enc Try.prog w base sp held n 3 [c1] = some y1 := e1
  obtain ⟨s1, q1, _, _⟩ := DataW.trod_int Try.underlying3 e1
  simp only [List.cons.injEq, and_true] at q1
  have e2 := hf 2 (by decide)
  rw [nc_3] at e2
  obtain ⟨y2, e2, g2⟩ := some_of hlen (by decide) e2
  replace e2 : DataW.trod enc Try.prog w base sp held n 3 [c2] = some y2 := e2
  obtain ⟨s2, q2, _, _⟩ := DataW.trod_int Try.underlying3 e2
  simp only [List.cons.injEq, and_true] at q2
  have e3 := hf 3 (by decide)
  rw [nc_3] at e3
  obtain ⟨y3, e3, g3⟩ := some_of hlen (by decide) e3
  replace e3 : DataW.trod enc Try.prog w base sp held n 3 [c3] = some y3 := e3
  obtain ⟨s3, q3, _, _⟩ := DataW.trod_int Try.underlying3 e3
  simp only [List.cons.injEq, and_true] at q3
  have e4 := hf 4 (by decide)
  rw [nc_3] at e4
  obtain ⟨y4, e4, g4⟩ := some_of hlen (by decide) e4
  replace e4 : DataW.trod enc Try.prog w base sp held n 3 [c4] = some y4 := e4
  obtain ⟨s4, q4, _, _⟩ := DataW.trod_int Try.underlying3 e4
  simp only [List.cons.injEq, and_true] at q4
  have e5 := hf 5 (by decide)
  rw [nc_3] at e5
  obtain ⟨y5, e5, g5⟩ := some_of hlen (by decide) e5
  replace e5 : DataW.trod enc Try.prog w base sp held n 3 [c5] = some y5 := e5
  obtain ⟨s5, q5, _, _⟩ := DataW.trod_int Try.underlying3 e5
  simp only [List.cons.injEq, and_true] at q5
  have e6 := hf 6 (by decide)
  rw [nc_3] at e6
  obtain ⟨y6, e6, g6⟩ := some_of hlen (by decide) e6
  replace e6 : DataW.trod enc Try.prog w base sp held n 3 [c6] = some y6 := e6
  obtain ⟨s6, q6, _, _⟩ := DataW.trod_int Try.underlying3 e6
  simp only [List.cons.injEq, and_true] at q6
  subst q0 q1 q2 q3 q4 q5 q6
  exact ⟨fun i => [s0, s1, s2, s3, s4, s5, s6].getD i 0, rfl⟩
set_option maxRecDepth 20000 in
theorem open_layer {fuel : Nat} {cs : List Value} {x : DataW H × List MemPlace} (h : DataW.trod enc Try.prog w base sp held fuel 67 cs = some x) : ∃ l : LyD, cs = lyL l ∧ LyR w l ∧ LyK l (rB 67 x.1) := by
  obtain ⟨ys, n, rfl, rfl, hl, hlen, hf⟩ := DataW.trod_struct Try.underlying67 h
  have e0 : DataW.trod enc Try.prog w base sp held n 27 ((cs.drop 0).take (Try.prog.cellsOf 27)) = ys[0]? := hf 0 _ rfl
  rw [nc_27] at e0
  obtain ⟨y0, e0, g0⟩ := some_of (show ys.length = 10 from hlen) (by decide) e0
  have e1 : DataW.trod enc Try.prog w base sp held n 27 ((cs.drop 1).take (Try.prog.cellsOf 27)) = ys[1]? := hf 1 _ rfl
  rw [nc_27] at e1
  obtain ⟨y1, e1, g1⟩ := some_of (show ys.length = 10 from hlen) (by decide) e1
  have e2 : DataW.trod enc Try.prog w base sp held n 29 ((cs.drop 2).take (Try.prog.cellsOf 29)) = ys[2]? := hf 2 _ rfl
  rw [nc_29] at e2
  obtain ⟨y2, e2, g2⟩ := some_of (show ys.length = 10 from hlen) (by decide) e2
  have e3 : DataW.trod enc Try.prog w base sp held n 29 ((cs.drop 5).take (Try.prog.cellsOf 29)) = ys[3]? := hf 3 _ rfl
  rw [nc_29] at e3
  obtain ⟨y3, e3, g3⟩ := some_of (show ys.length = 10 from hlen) (by decide) e3
  have e4 : DataW.trod enc Try.prog w base sp held n 29 ((cs.drop 8).take (Try.prog.cellsOf 29)) = ys[4]? := hf 4 _ rfl
  rw [nc_29] at e4
  obtain ⟨y4, e4, g4⟩ := some_of (show ys.length = 10 from hlen) (by decide) e4
  have e5 : DataW.trod enc Try.prog w base sp held n 29 ((cs.drop 11).take (Try.prog.cellsOf 29)) = ys[5]? := hf 5 _ rfl
  rw [nc_29] at e5
  obtain ⟨y5, e5, g5⟩ := some_of (show ys.length = 10 from hlen) (by decide) e5
  have e6 : DataW.trod enc Try.prog w base sp held n 29 ((cs.drop 14).take (Try.prog.cellsOf 29)) = ys[6]? := hf 6 _ rfl
  rw [nc_29] at e6
  obtain ⟨y6, e6, g6⟩ := some_of (show ys.length = 10 from hlen) (by decide) e6
  have e7 : DataW.trod enc Try.prog w base sp held n 29 ((cs.drop 17).take (Try.prog.cellsOf 29)) = ys[7]? := hf 7 _ rfl
  rw [nc_29] at e7
  obtain ⟨y7, e7, g7⟩ := some_of (show ys.length = 10 from hlen) (by decide) e7
  have e8 : DataW.trod enc Try.prog w base sp held n 29 ((cs.drop 20).take (Try.prog.cellsOf 29)) = ys[8]? := hf 8 _ rfl
  rw [nc_29] at e8
  obtain ⟨y8, e8, g8⟩ := some_of (show ys.length = 10 from hlen) (by decide) e8
  have e9 : DataW.trod enc Try.prog w base sp held n 65 ((cs.drop 23).take (Try.prog.cellsOf 65)) = ys[9]? := hf 9 _ rfl
  rw [nc_65] at e9
  obtain ⟨y9, e9, g9⟩ := some_of (show ys.length = 10 from hlen) (by decide) e9
  rw [nc_67] at hl
  obtain ⟨c0, c1, c2, c3, c4, c5, c6, c7, c8, c9, c10, c11, c12, c13, c14, c15, c16, c17, c18, c19, c20, c21, c22, c23, c24, c25, c26, c27, c28, c29, rfl⟩ := parts30 hl
  replace e0 : DataW.trod enc Try.prog w base sp held n 27 [c0] = some y0 := e0
  obtain ⟨m0, q0, r0, k0⟩ := open_ls e0
  simp only [List.cons.injEq, and_true] at q0
  subst q0
  replace e1 : DataW.trod enc Try.prog w base sp held n 27 [c1] = some y1 := e1
  obtain ⟨m1, q1, r1, k1⟩ := open_ls e1
  simp only [List.cons.injEq, and_true] at q1
  subst q1
  replace e2 : DataW.trod enc Try.prog w base sp held n 29 [c2, c3, c4] = some y2 := e2
  obtain ⟨m2, q2, r2, k2⟩ := open_mat e2
  unfold mtL at q2
  simp only [List.cons.injEq, and_true] at q2
  obtain ⟨a2_0, a2_1, a2_2⟩ := q2
  subst a2_0 a2_1 a2_2
  replace e3 : DataW.trod enc Try.prog w base sp held n 29 [c5, c6, c7] = some y3 := e3
  obtain ⟨m3, q3, r3, k3⟩ := open_mat e3
  unfold mtL at q3
  simp only [List.cons.injEq, and_true] at q3
  obtain ⟨a3_0, a3_1, a3_2⟩ := q3
  subst a3_0 a3_1 a3_2
  replace e4 : DataW.trod enc Try.prog w base sp held n 29 [c8, c9, c10] = some y4 := e4
  obtain ⟨m4, q4, r4, k4⟩ := open_mat e4
  unfold mtL at q4
  simp only [List.cons.injEq, and_true] at q4
  obtain ⟨a4_0, a4_1, a4_2⟩ := q4
  subst a4_0 a4_1 a4_2
  replace e5 : DataW.trod enc Try.prog w base sp held n 29 [c11, c12, c13] = some y5 := e5
  obtain ⟨m5, q5, r5, k5⟩ := open_mat e5
  unfold mtL at q5
  simp only [List.cons.injEq, and_true] at q5
  obtain ⟨a5_0, a5_1, a5_2⟩ := q5
  subst a5_0 a5_1 a5_2
  replace e6 : DataW.trod enc Try.prog w base sp held n 29 [c14, c15, c16] = some y6 := e6
  obtain ⟨m6, q6, r6, k6⟩ := open_mat e6
  unfold mtL at q6
  simp only [List.cons.injEq, and_true] at q6
  obtain ⟨a6_0, a6_1, a6_2⟩ := q6
  subst a6_0 a6_1 a6_2
  replace e7 : DataW.trod enc Try.prog w base sp held n 29 [c17, c18, c19] = some y7 := e7
  obtain ⟨m7, q7, r7, k7⟩ := open_mat e7
  unfold mtL at q7
  simp only [List.cons.injEq, and_true] at q7
  obtain ⟨a7_0, a7_1, a7_2⟩ := q7
  subst a7_0 a7_1 a7_2
  replace e8 : DataW.trod enc Try.prog w base sp held n 29 [c20, c21, c22] = some y8 := e8
  obtain ⟨m8, q8, r8, k8⟩ := open_mat e8
  unfold mtL at q8
  simp only [List.cons.injEq, and_true] at q8
  obtain ⟨a8_0, a8_1, a8_2⟩ := q8
  subst a8_0 a8_1 a8_2
  replace e9 : DataW.trod enc Try.prog w base sp held n 65 [c23, c24, c25, c26, c27, c28, c29] = some y9 := e9
  obtain ⟨s, q9⟩ := open_shifts e9
  simp only [List.cons.injEq, and_true] at q9
  obtain ⟨a9_0, a9_1, a9_2, a9_3, a9_4, a9_5, a9_6⟩ := q9
  subst a9_0 a9_1 a9_2 a9_3 a9_4 a9_5 a9_6
  exact ⟨⟨m0, m1, m2, m3, m4, m5, m6, m7, m8, s⟩, rfl, ⟨r0, r1, r2, r3, r4, r5, r6, r7, r8⟩, Nat.le_trans k0 (rb_agL (i := 0) rfl g0), Nat.le_trans k1 (rb_agL (i := 1) rfl g1), Nat.le_trans k2 (rb_agL (i := 2) rfl g2), Nat.le_trans k3 (rb_agL (i := 3) rfl g3), Nat.le_trans k4 (rb_agL (i := 4) rfl g4), Nat.le_trans k5 (rb_agL (i := 5) rfl g5), Nat.le_trans k6 (rb_agL (i := 6) rfl g6), Nat.le_trans k7 (rb_agL (i := 7) rfl g7), Nat.le_trans k8 (rb_agL (i := 8) rfl g8)⟩
theorem open_layers {fuel : Nat} {cs : List Value} {x : DataW H × List MemPlace} (h : DataW.trod enc Try.prog w base sp held fuel 31 cs = some x) : ∃ (O : Option Addr) (n c : Nat) (ly : Nat → LyD), cs = [.slice O n c] ∧ n ≤ c ∧ c ≤ maxLen ∧ (0 < n → ∃ b off, O = some ⟨b, off, none⟩ ∧ ∀ k, k < n → LyC w b (off + k * 30) (ly k)) ∧ (∀ k, k < n → LyR w (ly k)) ∧ n * 384 ≤ rB 31 x.1 ∧ ∀ k, k < n → LyK (ly k) (rB 31 x.1) := by
  rcases open_slice Try.underlying31 h with ⟨hcs, _⟩ | ⟨a, len, cap, m, n, D, Pl, hcs, _, hl, hm, hmm, hx, hc⟩
  · exact ⟨none, 0, 0, fun _ => ⟨⟨none, 0, 0, fun _ => 0⟩, ⟨none, 0, 0, fun _ => 0⟩, ⟨0, 0, none, 0, 0, fun _ => 0⟩, ⟨0, 0, none, 0, 0, fun _ => 0⟩, ⟨0, 0, none, 0, 0, fun _ => 0⟩, ⟨0, 0, none, 0, 0, fun _ => 0⟩, ⟨0, 0, none, 0, 0, fun _ => 0⟩, ⟨0, 0, none, 0, 0, fun _ => 0⟩, ⟨0, 0, none, 0, 0, fun _ => 0⟩, fun _ => 0⟩, hcs, Nat.le_refl _, Nat.zero_le _, fun h => absurd h (by omega), fun k hk => absurd hk (by omega), by omega, fun k hk => absurd hk (by omega)⟩
  · have hlm : len ≤ m := by rw [hmm]; split <;> omega
    have each : ∀ i, ∃ l : LyD, i < len → (∀ t, t < 30 → w.cell? (a.add (i * 30 + t)) = some ((lyL l).getD t undef)) ∧ LyR w l ∧ LyK l (rB 67 (D i)) := fun i => by
      by_cases hi : i < len
      · obtain ⟨cs', h1, h2⟩ := hc i (by omega)
        rw [nc_67] at h1
        obtain ⟨_, hlen, hcell⟩ := World.cells?_some h1
        obtain ⟨l, rfl, hr, hk9⟩ := open_layer h2
        refine ⟨l, fun _ => ⟨fun t ht => ?_, hr, hk9⟩⟩
        have := hcell t ht
        rw [add_add] at this
        rw [this, List.getD_eq_getElem?_getD, List.getElem?_eq_getElem (by exact ht)]
        rfl
      · exact ⟨⟨⟨none, 0, 0, fun _ => 0⟩, ⟨none, 0, 0, fun _ => 0⟩, ⟨0, 0, none, 0, 0, fun _ => 0⟩, ⟨0, 0, none, 0, 0, fun _ => 0⟩, ⟨0, 0, none, 0, 0, fun _ => 0⟩, ⟨0, 0, none, 0, 0, fun _ => 0⟩, ⟨0, 0, none, 0, 0, fun _ => 0⟩, ⟨0, 0, none, 0, 0, fun _ => 0⟩, ⟨0, 0, none, 0, 0, fun _ => 0⟩, fun _ => 0⟩, fun h => absurd h hi⟩
    obtain ⟨ly, hly⟩ := Classical.axiomOfChoice each
    refine ⟨some a, len, cap, ly, hcs, hl, hm, fun h0 => ?_, fun k hk => (hly k hk).2.1, by rw [hx]; exact rb_sl Try.underlying31 nb_LAYER (by simp), fun k hk => (hly k hk).2.2.up (by rw [hx]; exact rb_in Try.underlying31 (List.mem_map.2 ⟨k, List.mem_range.2 hk, rfl⟩))⟩
    have k0 := (hly 0 h0).1 0 (by decide)
    obtain ⟨b, off, rfl⟩ := wplain_addr k0
    refine ⟨b, off, rfl, fun k hk => lyC_of (fun t ht => ?_)⟩
    have := (hly k hk).1 t ht
    rw [wadd_lit] at this
    rw [Nat.add_assoc]
    exact this
theorem open_mats {fuel : Nat} {cs : List Value} {x : DataW H × List MemPlace} (h : DataW.trod enc Try.prog w base sp held fuel 32 cs = some x) : ∃ (O : Option Addr) (n c : Nat) (md : Nat → MtD), cs = [.slice O n c] ∧ n ≤ c ∧ c ≤ maxLen ∧ (0 < n → ∃ b off, O = some ⟨b, off, none⟩ ∧ ∀ k, k < n → MtC w b (off + k * 3) (md k)) ∧ (∀ k, k < n → MtR w (md k)) ∧ n * 40 ≤ rB 32 x.1 ∧ ∀ k, k < n → (md k).n ≤ rB 32 x.1 := by
  rcases open_slice Try.underlying32 h with ⟨hcs, _⟩ | ⟨a, len, cap, m, n, D, Pl, hcs, _, hl, hm, hmm, hx, hc⟩
  · exact ⟨none, 0, 0, fun _ => ⟨0, 0, none, 0, 0, fun _ => 0⟩, hcs, Nat.le_refl _, Nat.zero_le _, fun h => absurd h (by omega), fun k hk => absurd hk (by omega), by omega, fun k hk => absurd hk (by omega)⟩
  · have hlm : len ≤ m := by rw [hmm]; split <;> omega
    have each : ∀ i, ∃ l : MtD, i < len → (∀ t, t < 3 → w.cell? (a.add (i * 3 + t)) = some ((mtL l).getD t undef)) ∧ MtR w l ∧ l.n ≤ rB 29 (D i) := fun i => by
      by_cases hi : i < len
      · obtain ⟨cs', h1, h2⟩ := hc i (by omega)
        rw [nc_29] at h1
        obtain ⟨_, hlen, hcell⟩ := World.cells?_some h1
        obtain ⟨l, rfl, hr, hk9⟩ := open_mat h2
        refine ⟨l, fun _ => ⟨fun t ht => ?_, hr, hk9⟩⟩
        have := hcell t ht
        rw [add_add] at this
        rw [this, List.getD_eq_getElem?_getD, List.getElem?_eq_getElem (by exact ht)]
        rfl
      · exact ⟨⟨0, 0, none, 0, 0, fun _ => 0⟩, fun h => absurd h hi⟩
    obtain ⟨md, hmd⟩ := Classical.axiomOfChoice each
    refine ⟨some a, len, cap, md, hcs, hl, hm, fun h0 => ?_, fun k hk => (hmd k hk).2.1, by rw [hx]; exact rb_sl Try.underlying32 nb_MAT (by simp), fun k hk => Nat.le_trans (hmd k hk).2.2 (by rw [hx]; exact rb_in Try.underlying32 (List.mem_map.2 ⟨k, List.mem_range.2 hk, rfl⟩))⟩
    have k0 := (hmd 0 h0).1 0 (by decide)
    obtain ⟨b, off, rfl⟩ := wplain_addr k0
    have hcell : ∀ k, k < len → ∀ t, t < 3 → w.cell? ⟨b, off + k * 3 + t, none⟩ = some ((mtL (md k)).getD t undef) := fun k hk t ht => by
      have := (hmd k hk).1 t ht
      rw [wadd_lit] at this
      rw [Nat.add_assoc]
      exact this
    exact ⟨b, off, rfl, fun k hk => ⟨hcell k hk 0 (by decide), hcell k hk 1 (by decide), hcell k hk 2 (by decide)⟩⟩
theorem open_cfg {fuel : Nat} {cs : List Value} {x : DataW H × List MemPlace} (h : DataW.trod enc Try.prog w base sp held fuel 23 cs = some x) : ∃ s0 s1 s2 s3 s4 s5 s6 s7 : Int, cs = [.int .i64 s0, .int .i64 s1, .int .i64 s2, .int .i64 s3, .int .i64 s4, .int .i64 s5, .int .i64 s6, .int .i64 s7] := by
  obtain ⟨ys, n, rfl, rfl, hl, hlen, hf⟩ := DataW.trod_struct Try.underlying23 h
  have e0 : DataW.trod enc Try.prog w base sp held n 3 ((cs.drop 0).take (Try.prog.cellsOf 3)) = ys[0]? := hf 0 _ rfl
  rw [nc_3] at e0
  obtain ⟨y0, e0, g0⟩ := some_of (show ys.length = 8 from hlen) (by decide) e0
  have e1 : DataW.trod enc Try.prog w base sp held n 3 ((cs.drop 1).take (Try.prog.cellsOf 3)) = ys[1]? := hf 1 _ rfl
  rw [nc_3] at e1
  obtain ⟨y1, e1, g1⟩ := some_of (show ys.length = 8 from hlen) (by decide) e1
  have e2 : DataW.trod enc Try.prog w base sp held n 3 ((cs.drop 2).take (Try.prog.cellsOf 3)) = ys[2]? := hf 2 _ rfl
  rw [nc_3] at e2
  obtain ⟨y2, e2, g2⟩ := some_of (show ys.length = 8 from hlen) (by decide) e2
  have e3 : DataW.trod enc Try.prog w base sp held n 3 ((cs.drop 3).take (Try.prog.cellsOf 3)) = ys[3]? := hf 3 _ rfl
  rw [nc_3] at e3
  obtain ⟨y3, e3, g3⟩ := some_of (show ys.length = 8 from hlen) (by decide) e3
  have e4 : DataW.trod enc Try.prog w base sp held n 3 ((cs.drop 4).take (Try.prog.cellsOf 3)) = ys[4]? := hf 4 _ rfl
  rw [nc_3] at e4
  obtain ⟨y4, e4, g4⟩ := some_of (show ys.length = 8 from hlen) (by decide) e4
  have e5 : DataW.trod enc Try.prog w base sp held n 3 ((cs.drop 5).take (Try.prog.cellsOf 3)) = ys[5]? := hf 5 _ rfl
  rw [nc_3] at e5
  obtain ⟨y5, e5, g5⟩ := some_of (show ys.length = 8 from hlen) (by decide) e5
  have e6 : DataW.trod enc Try.prog w base sp held n 3 ((cs.drop 6).take (Try.prog.cellsOf 3)) = ys[6]? := hf 6 _ rfl
  rw [nc_3] at e6
  obtain ⟨y6, e6, g6⟩ := some_of (show ys.length = 8 from hlen) (by decide) e6
  have e7 : DataW.trod enc Try.prog w base sp held n 3 ((cs.drop 7).take (Try.prog.cellsOf 3)) = ys[7]? := hf 7 _ rfl
  rw [nc_3] at e7
  obtain ⟨y7, e7, g7⟩ := some_of (show ys.length = 8 from hlen) (by decide) e7
  rw [nc_23] at hl
  obtain ⟨c0, c1, c2, c3, c4, c5, c6, c7, rfl⟩ := parts8 hl
  replace e0 : DataW.trod enc Try.prog w base sp held n 3 [c0] = some y0 := e0
  obtain ⟨s0, q0, _, _⟩ := DataW.trod_int Try.underlying3 e0
  simp only [List.cons.injEq, and_true] at q0
  replace e1 : DataW.trod enc Try.prog w base sp held n 3 [c1] = some y1 := e1
  obtain ⟨s1, q1, _, _⟩ := DataW.trod_int Try.underlying3 e1
  simp only [List.cons.injEq, and_true] at q1
  replace e2 : DataW.trod enc Try.prog w base sp held n 3 [c2] = some y2 := e2
  obtain ⟨s2, q2, _, _⟩ := DataW.trod_int Try.underlying3 e2
  simp only [List.cons.injEq, and_true] at q2
  replace e3 : DataW.trod enc Try.prog w base sp held n 3 [c3] = some y3 := e3
  obtain ⟨s3, q3, _, _⟩ := DataW.trod_int Try.underlying3 e3
  simp only [List.cons.injEq, and_true] at q3
  replace e4 : DataW.trod enc Try.prog w base sp held n 3 [c4] = some y4 := e4
  obtain ⟨s4, q4, _, _⟩ := DataW.trod_int Try.underlying3 e4
  simp only [List.cons.injEq, and_true] at q4
  replace e5 : DataW.trod enc Try.prog w base sp held n 3 [c5] = some y5 := e5
  obtain ⟨s5, q5, _, _⟩ := DataW.trod_int Try.underlying3 e5
  simp only [List.cons.injEq, and_true] at q5
  replace e6 : DataW.trod enc Try.prog w base sp held n 3 [c6] = some y6 := e6
  obtain ⟨s6, q6, _, _⟩ := DataW.trod_int Try.underlying3 e6
  simp only [List.cons.injEq, and_true] at q6
  replace e7 : DataW.trod enc Try.prog w base sp held n 3 [c7] = some y7 := e7
  obtain ⟨s7, q7, _, _⟩ := DataW.trod_int Try.underlying3 e7
  simp only [List.cons.injEq, and_true] at q7
  subst q0 q1 q2 q3 q4 q5 q6 q7
  exact ⟨s0, s1, s2, s3, s4, s5, s6, s7, rfl⟩
set_option maxRecDepth 20000 in
theorem open_wt {fuel : Nat} {cs : List Value} {x : DataW H × List MemPlace} (h : DataW.trod enc Try.prog w base sp held fuel 34 cs = some x) : ∃ X : WtD, cs = wtL X ∧ WtR w X ∧ (rB 34 x.1 ≤ 140737488351232 → WtZb X) := by
  obtain ⟨ys, n, rfl, rfl, hl, hlen, hf⟩ := DataW.trod_struct Try.underlying34 h
  have e0 : DataW.trod enc Try.prog w base sp held n 23 ((cs.drop 0).take (Try.prog.cellsOf 23)) = ys[0]? := hf 0 _ rfl
  rw [nc_23] at e0
  obtain ⟨y0, e0, g0⟩ := some_of (show ys.length = 7 from hlen) (by decide) e0
  have e1 : DataW.trod enc Try.prog w base sp held n 29 ((cs.drop 8).take (Try.prog.cellsOf 29)) = ys[1]? := hf 1 _ rfl
  rw [nc_29] at e1
  obtain ⟨y1, e1, g1⟩ := some_of (show ys.length = 7 from hlen) (by decide) e1
  have e2 : DataW.trod enc Try.prog w base sp held n 30 ((cs.drop 11).take (Try.prog.cellsOf 30)) = ys[2]? := hf 2 _ rfl
  rw [nc_30] at e2
  obtain ⟨y2, e2, g2⟩ := some_of (show ys.length = 7 from hlen) (by decide) e2
  have e3 : DataW.trod enc Try.prog w base sp held n 31 ((cs.drop 12).take (Try.prog.cellsOf 31)) = ys[3]? := hf 3 _ rfl
  rw [nc_31] at e3
  obtain ⟨y3, e3, g3⟩ := some_of (show ys.length = 7 from hlen) (by decide) e3
  have e4 : DataW.trod enc Try.prog w base sp held n 27 ((cs.drop 13).take (Try.prog.cellsOf 27)) = ys[4]? := hf 4 _ rfl
  rw [nc_27] at e4
  obtain ⟨y4, e4, g4⟩ := some_of (show ys.length = 7 from hlen) (by decide) e4
  have e5 : DataW.trod enc Try.prog w base sp held n 29 ((cs.drop 14).take (Try.prog.cellsOf 29)) = ys[5]? := hf 5 _ rfl
  rw [nc_29] at e5
  obtain ⟨y5, e5, g5⟩ := some_of (show ys.length = 7 from hlen) (by decide) e5
  have e6 : DataW.trod enc Try.prog w base sp held n 32 ((cs.drop 17).take (Try.prog.cellsOf 32)) = ys[6]? := hf 6 _ rfl
  rw [nc_32] at e6
  obtain ⟨y6, e6, g6⟩ := some_of (show ys.length = 7 from hlen) (by decide) e6
  rw [nc_34] at hl
  obtain ⟨c0, c1, c2, c3, c4, c5, c6, c7, c8, c9, c10, c11, c12, c13, c14, c15, c16, c17, rfl⟩ := parts18 hl
  replace e0 : DataW.trod enc Try.prog w base sp held n 23 [c0, c1, c2, c3, c4, c5, c6, c7] = some y0 := e0
  obtain ⟨s0, s1, s2, s3, s4, s5, s6, s7, q0⟩ := open_cfg e0
  simp only [List.cons.injEq, and_true] at q0
  obtain ⟨a0_0, a0_1, a0_2, a0_3, a0_4, a0_5, a0_6, a0_7⟩ := q0
  subst a0_0 a0_1 a0_2 a0_3 a0_4 a0_5 a0_6 a0_7
  replace e1 : DataW.trod enc Try.prog w base sp held n 29 [c8, c9, c10] = some y1 := e1
  obtain ⟨E, q1, rE, kE⟩ := open_mat e1
  unfold mtL at q1
  simp only [List.cons.injEq, and_true] at q1
  obtain ⟨a1_0, a1_1, a1_2⟩ := q1
  subst a1_0 a1_1 a1_2
  replace e2 : DataW.trod enc Try.prog w base sp held n 30 [c11] = some y2 := e2
  obtain ⟨tO, tn, tc, tC, tS, q2, rT, kT⟩ := open_turns e2
  simp only [List.cons.injEq, and_true] at q2
  subst q2
  replace e3 : DataW.trod enc Try.prog w base sp held n 31 [c12] = some y3 := e3
  obtain ⟨yO, yn, yc, ly, q3, z1, z2, z3, z4, z5, z6⟩ := open_layers e3
  simp only [List.cons.injEq, and_true] at q3
  subst q3
  replace e4 : DataW.trod enc Try.prog w base sp held n 27 [c13] = some y4 := e4
  obtain ⟨F, q4, rF, kF⟩ := open_ls e4
  simp only [List.cons.injEq, and_true] at q4
  subst q4
  replace e5 : DataW.trod enc Try.prog w base sp held n 29 [c14, c15, c16] = some y5 := e5
  obtain ⟨Q, q5, rQ, kQ⟩ := open_mat e5
  unfold mtL at q5
  simp only [List.cons.injEq, and_true] at q5
  obtain ⟨a5_0, a5_1, a5_2⟩ := q5
  subst a5_0 a5_1 a5_2
  replace e6 : DataW.trod enc Try.prog w base sp held n 32 [c17] = some y6 := e6
  obtain ⟨mO, mn, mc, md, q6, m1, m2, m3, m4, m5, m6⟩ := open_mats e6
  simp only [List.cons.injEq, and_true] at q6
  subst q6
  refine ⟨⟨s0, s1, s2, s3, s4, s5, s6, s7, E, tO, tn, tc, tC, tS, yO, yn, yc, ly, F, Q, mO, mn, mc, md⟩, rfl, ⟨rE, rT, rF, rQ, z1, z2, z3, z4, m1, m2, m3, m4⟩, fun hb => ?_⟩
  have t1 : rB 29 y1.1 ≤ 140737488351232 := Nat.le_trans (rb_agW (i := 1) rfl g1) hb
  have t2 : rB 30 y2.1 ≤ 140737488351232 := Nat.le_trans (rb_agW (i := 2) rfl g2) hb
  have t3 : rB 31 y3.1 ≤ 140737488351232 := Nat.le_trans (rb_agW (i := 3) rfl g3) hb
  have t4 : rB 27 y4.1 ≤ 140737488351232 := Nat.le_trans (rb_agW (i := 4) rfl g4) hb
  have t5 : rB 29 y5.1 ≤ 140737488351232 := Nat.le_trans (rb_agW (i := 5) rfl g5) hb
  have t6 : rB 32 y6.1 ≤ 140737488351232 := Nat.le_trans (rb_agW (i := 6) rfl g6) hb
  refine ⟨Nat.le_trans kE t1, Nat.le_trans kQ t5, Nat.le_trans kT t2, Nat.le_trans kF t4, Nat.le_trans z5 t3, Nat.le_trans m5 t6, fun k hk => Nat.le_trans (m6 k hk) t6, fun k hk => ((z6 k hk).up t3).1, fun k hk => ((z6 k hk).up t3).2.1, fun k hk => ?_⟩
  obtain ⟨_, _, h3, h4, h5, h6, h7, h8, h9⟩ := (z6 k hk).up t3
  exact ⟨h3, h4, h5, h6, h7, h8, h9⟩
set_option maxRecDepth 20000 in
theorem open_weights {r : Reach} {b0 : Nat} {v : Value} {d : DataW H} {ps : List MemPlace} (hval : Value.okWide Try.prog w r b0 34 v) (hd : DataW.Trod enc Try.prog w base sp held 34 v d ps) : ∃ x : WtD, v = .agg (wtA x) ∧ WtR w x ∧ (rB 34 d ≤ 140737488351232 → WtZb x) := by
  obtain ⟨cs, rfl, _⟩ := okWide_struct Try.underlying34 hval
  obtain ⟨fuel, hd⟩ := hd
  obtain ⟨x, hc, hx, hb⟩ := open_wt hd
  obtain rfl : cs = wtA x := Array.ext' hc
  exact ⟨x, rfl, hx, hb⟩
end
end Go.Proofs.Ytilghknalbhacaa
