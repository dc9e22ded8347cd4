import Derived.Test.YtbpldnlafilbbaaNgB
import Derived.Deep.Cut
import Derived.Deep.RegionHeld3
import Derived.Deep.DrawnRows
namespace Go.Proofs.Ytbpldnlafilbbaa
open Go.RowKit
/-! The index in memory. -/
def ixF (tv pv lv : Value) : Nat → Value := fun i => if i = 0 then tv else if i = 1 then pv else lv
structure Ix (w : World) (X : Nat) (S : Nat → Prop) (most nt np : Nat) (tx : Nat → Int) (A M : Nat → Nat) (Lb : Nat) (tv pv : Value) (G : Nat → Value → Value) : Prop where
  row : w.rowIs X 58 3 (ixF tv pv (.slice (some ⟨Lb, 0, none⟩) most most))
  tok : Own w 0 3 1 tv nt (fun j => .int .i64 (tx j))
  plc : Own w 0 64 1 pv np (fun j => .pointer (some ⟨A (j + 1), 0, none⟩))
  lst : w.rowIs Lb 60 most (fun i => .map (some (M i)))
  map : ∀ i, i < most → PMap w (M i) (G i)
  pls : ∀ q, 1 ≤ q → q ≤ np → w.rowIs (A q) 69 5 (plF tx A most q)
  fit : ∀ j, j < nt → fits (tx j)
  dM : ∀ i j, i < most → j < most → M i = M j → i = j
  hm : 1 ≤ most ∧ most ≤ 4
  sX : S X
  sL : S Lb
  sT : ∀ b, tv.ownBlock = some b → S b
  sP : ∀ b, pv.ownBlock = some b → S b
  sM : ∀ i, i < most → S (M i)
  sA : ∀ q, 1 ≤ q → q ≤ np → S (A q)
  low : ∀ b, S b → b < w.heap.size
theorem type_apart {w : World} {a b : Nat} {s t : TypeId} {n m : Nat} {f g : Nat → Value} (h : w.rowIs a s n f) (k : w.rowIs b t m g) (hst : s ≠ t) : a ≠ b := by
  intro e
  subst e
  obtain ⟨x, hx, _⟩ := h
  obtain ⟨y, hy, _⟩ := k
  rw [hx] at hy
  cases hy
  exact hst rfl
theorem own_type {w : World} {base : Nat} {e : TypeId} {sz : Nat} {v : Value} {n : Nat} {cs : Nat → Value} (h : Own w base e sz v n cs) {b : Nat} (hb : v.ownBlock = some b) : ∃ cur fr, w.heap[b]? = some (.cells cur e fr) := by
  rcases h.2 with ⟨e1, _⟩ | ⟨k, cap, cur, e1, _, hk, _⟩
  · rw [e1] at hb; simp [Value.ownBlock] at hb
  · rw [e1] at hb
    simp [Value.ownBlock] at hb
    subst hb
    exact ⟨_, _, hk⟩
theorem own_apart {w : World} {base : Nat} {e t : TypeId} {sz : Nat} {v : Value} {n m : Nat} {cs f : Nat → Value} (h : Own w base e sz v n cs) {a : Nat} (k : w.rowIs a t m f) (het : e ≠ t) {b : Nat} (hb : v.ownBlock = some b) : b ≠ a := by
  intro e1
  subst e1
  obtain ⟨cur, fr, h1⟩ := own_type h hb
  obtain ⟨y, hy, _⟩ := k
  rw [h1] at hy
  cases hy
  exact het rfl
theorem own_off {w : World} {base base' : Nat} {e e' : TypeId} {sz sz' : Nat} {v v' : Value} {n n' : Nat} {cs cs' : Nat → Value} (h : Own w base e sz v n cs) (k : Own w base' e' sz' v' n' cs') (het : e ≠ e') : Off v v' := fun b hb hb' => by
  obtain ⟨_, _, h1⟩ := own_type h hb
  obtain ⟨_, _, h2⟩ := own_type k hb'
  rw [h1] at h2
  cases h2
  exact het rfl
theorem PMap.apart {w : World} {M : Nat} {g : Value → Value} (h : PMap w M g) {a : Nat} {t : TypeId} {n : Nat} {f : Nat → Value} (k : w.rowIs a t n f) : M ≠ a := by
  intro e
  subst e
  obtain ⟨es, clock, q⟩ := h
  obtain ⟨y, hy, _⟩ := k
  rw [q.blk] at hy
  cases hy
theorem PMap.offOwn {w : World} {M : Nat} {g : Value → Value} (h : PMap w M g) {base : Nat} {e : TypeId} {sz : Nat} {v : Value} {n : Nat} {cs : Nat → Value} (k : Own w base e sz v n cs) {b : Nat} (hb : v.ownBlock = some b) : b ≠ M := by
  intro e1
  subst e1
  obtain ⟨es, clock, q⟩ := h
  obtain ⟨_, _, h1⟩ := own_type k hb
  rw [q.blk] at h1
  cases h1
theorem Own.put {w : World} {base : Nat} {e : TypeId} {sz g cap n : Nat} {cs : Nat → Value} (h : Own w base e sz (.slice (some ⟨g, 0, none⟩) n cap) n cs) (j : Nat) (x : Value) : Own (w.setCell ⟨g, j, none⟩ x) base e sz (.slice (some ⟨g, 0, none⟩) n cap) n (fun i => if i = j then x else cs i) := by
  have := (World.ownsRow.stored h j x).1
  unfold Own
  have e1 : (List.range (n * sz)).map (fun i => if i = j then x else cs i) = ((List.range (n * sz)).map cs).set j x := by
    refine List.ext_getElem? (fun i => ?_)
    rw [List.getElem?_set]
    by_cases hi : i < n * sz
    · by_cases e : j = i
      · subst e
        simp [hi]
      · rw [if_neg e]
        simp [hi]
        exact fun q => absurd q.symm e
    · simp [hi]
      omega
  rw [e1]
  exact this
theorem Own.shrink {w : World} {base : Nat} {e : TypeId} {sz m k cap : Nat} {u : Option Addr} {cs : Nat → Value} (h : Own w base e sz (.slice u m cap) m cs) (hk : k ≤ m) : Own w base e sz (.slice u k cap) k cs := by
  rcases h.2 with ⟨h1, h2⟩ | ⟨g, cap', cur, h1, hb, hg, hnc, hcm, hcs, htake⟩
  · cases h1
    obtain rfl : k = 0 := by omega
    exact h
  · cases h1
    refine ⟨by simp, .inr ⟨g, cap, cur, rfl, hb, hg, by omega, hcm, hcs, ?_⟩⟩
    have hks : k * sz ≤ m * sz := Nat.mul_le_mul_right _ hk
    have h2 := congrArg (List.take (k * sz)) htake
    rw [List.take_take, Nat.min_eq_left hks] at h2
    rw [h2, ← List.map_take, List.take_range, Nat.min_eq_left hks]
theorem Own.at_ {w : World} {base : Nat} {e : TypeId} {sz n c : Nat} {u : Option Addr} {cs : Nat → Value} (h : Own w base e sz (.slice u n c) n cs) (hn : 0 < n) : ∃ g, u = some ⟨g, 0, none⟩ ∧ base ≤ g ∧ g < w.heap.size ∧ (∀ j, j < n * sz → w.cell? ⟨g, j, none⟩ = some (cs j)) ∧ (∀ j, w.frozen? ⟨g, j, none⟩ = false) := by
  obtain ⟨ao, cap, e1, hr⟩ := h.rd
  injection e1 with e2 _ e3
  subst e2 e3
  obtain ⟨b, off, rfl, hc⟩ := hr.at_ hn
  rcases h.2 with ⟨e4, _⟩ | ⟨g, cap', cur, e4, hb, hgg, _⟩
  · cases e4
  · injection e4 with e5 _ e6
    injection e5 with e5
    injection e5 with e7 e8
    subst e7 e8
    refine ⟨_, rfl, hb, (Array.getElem?_eq_some_iff.1 hgg).1, fun j hj => by simpa using hc j hj, fun j => by simp [World.frozen?, hgg]⟩
section
variable {w w' : World} {X : Nat} {S S' : Nat → Prop} {most nt np : Nat} {tx : Nat → Int} {A M : Nat → Nat} {Lb : Nat} {tv pv : Value} {G : Nat → Value → Value}
theorem Ix.chg (h : Ix w X S most nt np tx A M Lb tv pv G) {T : Nat → Prop} (c : Chg w w' T) (hT : ∀ b, S b → ¬ T b) : Ix w' X S most nt np tx A M Lb tv pv G :=
  ⟨c.row h.row (hT _ h.sX), h.tok.chg c (fun b hb => hT b (h.sT b hb)), h.plc.chg c (fun b hb => hT b (h.sP b hb)), c.row h.lst (hT _ h.sL), fun i hi => (h.map i hi).chg c (hT _ (h.sM i hi)), fun q h1 h2 => c.row (h.pls q h1 h2) (hT _ (h.sA q h1 h2)), h.fit, h.dM, h.hm, h.sX, h.sL, h.sT, h.sP, h.sM, h.sA, fun b hb => Nat.lt_of_lt_of_le (h.low b hb) c.size⟩
theorem Ix.fresh (h : Ix w X S most nt np tx A M Lb tv pv G) (f : Below w.heap.size w w') : Ix w' X S most nt np tx A M Lb tv pv G := h.chg (Chg.of_below (fun _ => False) f) (fun _ _ t => t)
theorem Ix.wide (h : Ix w X S most nt np tx A M Lb tv pv G) (hS : ∀ b, S b → S' b) (hl : ∀ b, S' b → b < w.heap.size) : Ix w X S' most nt np tx A M Lb tv pv G :=
  ⟨h.row, h.tok, h.plc, h.lst, h.map, h.pls, h.fit, h.dM, h.hm, hS _ h.sX, hS _ h.sL, fun b hb => hS b (h.sT b hb), fun b hb => hS b (h.sP b hb), fun i hi => hS _ (h.sM i hi), fun q h1 h2 => hS _ (h.sA q h1 h2), hl⟩
theorem Ix.setMap (h : Ix w X S most nt np tx A M Lb tv pv G) {k : Nat} (hk : k < most) (c : Chg w w' (fun b => b = M k)) {g : Value → Value} (hp : PMap w' (M k) g) : Ix w' X S most nt np tx A M Lb tv pv (fun i => if i = k then g else G i) :=
  ⟨c.row h.row (fun e => (h.map k hk).apart h.row e.symm), h.tok.chg c (fun b hb e => (h.map k hk).offOwn h.tok hb e), h.plc.chg c (fun b hb e => (h.map k hk).offOwn h.plc hb e), c.row h.lst (fun e => (h.map k hk).apart h.lst e.symm), fun i hi => by
    by_cases e : i = k
    · rw [if_pos e, e]; exact hp
    · rw [if_neg e]; exact (h.map i hi).chg c (fun e1 => e (h.dM i k hi hk e1)), fun q h1 h2 => c.row (h.pls q h1 h2) (fun e => (h.map k hk).apart (h.pls q h1 h2) e.symm), h.fit, h.dM, h.hm, h.sX, h.sL, h.sT, h.sP, h.sM, h.sA, fun b hb => Nat.lt_of_lt_of_le (h.low b hb) c.size⟩
theorem Ix.cells (h : Ix w X S most nt np tx A M Lb tv pv G) : w.cell? ⟨X, 0, none⟩ = some tv ∧ w.cell? ⟨X, 1, none⟩ = some pv ∧ w.cell? ⟨X, 2, none⟩ = some (.slice (some ⟨Lb, 0, none⟩) most most) :=
  ⟨h.row.cell (i := 0) (by decide), h.row.cell (i := 1) (by decide), h.row.cell (i := 2) (by decide)⟩
end
set_option maxRecDepth 20000 in
theorem len_nil (w : World) : Calls Try.prog 17 #[.pointer none] w fun e w' => e = .returned (.int .i64 0) ∧ w' = w := by
  go_enter Try.func17, Try.ntmps17
  go_wp2
  go_ret
  exact ⟨rfl, rfl⟩
set_option maxRecDepth 20000 in
theorem len_at {w : World} {X nt : Nat} {u : Option Addr} {c : Nat} (c0 : w.cell? ⟨X, 0, none⟩ = some (.slice u nt c)) : Calls Try.prog 17 #[.pointer (some ⟨X, 0, none⟩)] w fun e w' => e = .returned (.int .i64 nt) ∧ w' = w := by
  go_enter Try.func17, Try.ntmps17
  go_wp2
  go_ret
  exact ⟨rfl, rfl⟩
set_option maxRecDepth 20000 in
theorem longest_at {w : World} {X Lb most : Nat} (c2 : w.cell? ⟨X, 2, none⟩ = some (.slice (some ⟨Lb, 0, none⟩) most most)) (q : Nat) : Calls Try.prog 33 #[.pointer (some ⟨X, 0, none⟩), .int .i64 q] w fun e w' => e = .returned (.int .i64 (Nat.min q most : Nat)) ∧ w' = w := by
  go_enter Try.func33, Try.ntmps33
  go_wp2
  · go_ret
    exact ⟨ret_int (by rw [show Nat.min q most = most from Nat.min_eq_right (by omega)]), rfl⟩
  · go_ret
    exact ⟨ret_int (by rw [show Nat.min q most = q from Nat.min_eq_left (by omega)]), rfl⟩
theorem sizeI : (Try.prog.info? 3).map (·.size) = some 1 := by kernel_rfl
theorem results_cell_mid {P : Program} {fn : Func} {p : Tmp} {ty : TypeId} (h : fn.results = #[.cell p ty]) (tmps : Array Value) (w : World) (g : Nat) (cs : List Value) (d : TypeDesc)
    (hp : tmps.getD p undef = .pointer (some ⟨g, 0, none⟩)) (hc : w.rangeAt g 0 cs) (hu : P.underlying ty = some d) (hd : d.isRow = true) (hi : (P.info? ty).map (·.size) = some cs.length) :
    (results fn tmps).run P w = .ok (.agg cs.toArray) w := by
  have hp' : tmps[p]?.getD undef = .pointer (some ⟨g, 0, none⟩) := by simpa using hp
  simp [results, h, hp', asAddr, run_loadVar_mid w g 0 ty cs d hc hu hd hi]
theorem range4 {w : World} {g : Nat} {t : TypeId} {f : Nat → Value} (h : w.rowIs g t 4 f) {a b c d : Value} (h0 : f 0 = a) (h1 : f 1 = b) (h2 : f 2 = c) (h3 : f 3 = d) : w.rangeAt g 0 [a, b, c, d] := by
  intro j v hj
  rw [Nat.zero_add]
  match j, hj with
  | 0, hj => cases hj; rw [← h0]; exact h.cell (by decide)
  | 1, hj => cases hj; rw [← h1]; exact h.cell (by decide)
  | 2, hj => cases hj; rw [← h2]; exact h.cell (by decide)
  | 3, hj => cases hj; rw [← h3]; exact h.cell (by decide)
  | j + 4, hj => simp at hj
theorem run_row {w : World} {g : Nat} {tx : Nat → Int} {q l : Nat} (h : w.rowIs g 71 4 (fun j => if 0 ≤ j ∧ j < 0 + l then .int .i64 (tx (q - l + (j - 0))) else .int .i64 0)) : w.rowIs g 71 4 (fun j => .int .i64 (rc tx q l j)) :=
  h.congr (fun j _ => by
    unfold rc
    by_cases e : j < l
    · rw [if_pos ⟨Nat.zero_le _, by omega⟩, if_pos e]; rfl
    · rw [if_neg (by omega), if_neg e])
set_option maxRecDepth 20000 in
set_option maxHeartbeats 1600000 in
theorem ahead_at {w : World} {X tb nt cap : Nat} {tx : Nat → Int} (c0 : w.cell? ⟨X, 0, none⟩ = some (.slice (some ⟨tb, 0, none⟩) nt cap)) (ht : ∀ j, j < nt → w.cell? ⟨tb, j, none⟩ = some (.int .i64 (tx j))) (hle : nt ≤ cap) (hcap : cap ≤ 9223372036854775807) {q l : Nat} (h1 : 1 ≤ l) (h4 : l ≤ 4) (hl : l ≤ q) (hq : q ≤ nt) :
    Calls Try.prog 34 #[.pointer (some ⟨X, 0, none⟩), .int .i64 q, .int .i64 l] w fun e w' => e = .returned (runV (rn tx q l)) ∧ Below w.heap.size w w' := by
  have hX := lt_of_cell c0
  have htb : tb < w.heap.size := lt_of_cell (ht 0 (by omega))
  have f0 : Below w.heap.size w ((w.alloc (.cells #[.int .i64 0, .int .i64 0, .int .i64 0, .int .i64 0] 71)).alloc (.cells #[.int .i64 0, .int .i64 0, .int .i64 0, .int .i64 0] 71)) := (fresh_alloc w _).alloc (by simp) _
  have R1 : ((w.alloc (.cells #[.int .i64 0, .int .i64 0, .int .i64 0, .int .i64 0] 71)).alloc (.cells #[.int .i64 0, .int .i64 0, .int .i64 0, .int .i64 0] 71)).rowIs (w.heap.size + 1) 71 4 (fun _ => .int .i64 0) := by
    have := World.rowIs_alloc (w.alloc (.cells #[.int .i64 0, .int .i64 0, .int .i64 0, .int .i64 0] 71)) #[.int .i64 0, .int .i64 0, .int .i64 0, .int .i64 0] 71 (fun _ => .int .i64 0) (fun i hi => by
      have hi : i < 4 := hi
      rcases i with _ | _ | _ | _ | i
      · rfl
      · rfl
      · rfl
      · rfl
      · omega)
    simpa using this
  have R0 : ((w.alloc (.cells #[.int .i64 0, .int .i64 0, .int .i64 0, .int .i64 0] 71)).alloc (.cells #[.int .i64 0, .int .i64 0, .int .i64 0, .int .i64 0] 71)).rowIs w.heap.size 71 4 (fun _ => .int .i64 0) := by
    have := (World.rowIs_alloc w #[.int .i64 0, .int .i64 0, .int .i64 0, .int .i64 0] 71 (fun _ => .int .i64 0) (fun i hi => by
      have hi : i < 4 := hi
      rcases i with _ | _ | _ | _ | i
      · rfl
      · rfl
      · rfl
      · rfl
      · omega)).alloc (.cells #[.int .i64 0, .int .i64 0, .int .i64 0, .int .i64 0] 71)
    exact this
  obtain ⟨ql, hql⟩ : ∃ ql, ql = q - l := ⟨_, rfl⟩
  have HQL := hidd hql
  have e1 : (q : Int) - (l : Int) = (ql : Int) := by omega
  have hwr : IntKind.i64.wrap (ql : Int) = (ql : Int) := wrap_small _ (by omega) (by omega)
  have HMIN : Hid (l = Nat.min l 4) := by show l = min l 4; omega
  have HT := hidd ht
  have hqq : q - ql = l := by omega
  have i0 : (0 : Int) ≤ (ql : Int) := by omega
  have i1 : (ql : Int) ≤ (q : Int) := by omega
  have i2 : (q : Int) ≤ (cap : Int) := by omega
  have i3 : ¬ cap = ql := by omega
  have i4 : (0 : Int) ≤ (q : Int) := by omega
  go_enter Try.func34, Try.ntmps34
  go_upto_region 2 with fail
  have c0' := fresh_cell f0 c0
  have HT' := hidd (fun j hj => fresh_cell f0 (HT.out j hj))
  clear c0 ht HT hql
  generalize ((w.alloc (.cells #[.int .i64 0, .int .i64 0, .int .i64 0, .int .i64 0] 71)).alloc (.cells #[.int .i64 0, .int .i64 0, .int .i64 0, .int .i64 0] 71)) = wr at *
  have cX : wr.drew.cell? ⟨X, 0, none⟩ = some (.slice (some ⟨tb, 0, none⟩) nt cap) := c0'
  have HV := hidd (show ∀ j, j < l → wr.drew.cell? ⟨tb, ql + j, none⟩ = some (.int .i64 (tx (ql + j))) from fun j hj => by exact fresh_cell (Below.refl _ wr).drew (HT'.out (ql + j) (by omega)))
  have HROW := hidd R1.drew
  have HFIT : Hid (0 + l ≤ 4) := by show _ ≤ _; omega
  have hnX : ¬ X = w.heap.size + 1 := by omega
  go_region_held3 (fun w' => w'.cell? ⟨X, 0, none⟩ = some (.slice (some ⟨tb, 0, none⟩) nt cap))
    (first | (with_reducible exact c0') | (with_reducible exact c9) | go_keep)
    (first
      | (refine step_copyR (by rfl) _ _ 22 22 (by rfl) 3 Try.underlying22 sizeI (w.heap.size + 1) 0 4 4 tb ql l (cap - ql) l (by rfl) (by rfl) HMIN.out 71 4 _ HROW.out HFIT.out (fun j => .int .i64 (tx (ql + j))) HV.out (fun _ _ => rfl) ?_; intro w9 hr9 hc9; have c9 := hc9.cell cX hnX))
  have HRC := hidd (run_row (q := q) (l := l) (tx := tx) (hr9.congr (fun j _ => by rw [← HQL.out])))
  have HR0 := hidd (hc9.row R0.drew (show ¬ w.heap.size = w.heap.size + 1 by omega))
  have HF := hidd (hc9.below f0.drew (by have := R1.lt; simp; omega) (fun x e => by rw [e]; omega))
  clear c9 hr9 hc9 R0 R1 f0 HROW HV HT' c0' cX
  have d0 : w9.cell? ⟨w.heap.size + 1, 0, none⟩ = some (.int .i64 (rc tx q l 0)) := HRC.out.cell (i := 0) (by decide)
  have d1 : w9.cell? ⟨w.heap.size + 1, 1, none⟩ = some (.int .i64 (rc tx q l 1)) := HRC.out.cell (i := 1) (by decide)
  have d2 : w9.cell? ⟨w.heap.size + 1, 2, none⟩ = some (.int .i64 (rc tx q l 2)) := HRC.out.cell (i := 2) (by decide)
  have d3 : w9.cell? ⟨w.heap.size + 1, 3, none⟩ = some (.int .i64 (rc tx q l 3)) := HRC.out.cell (i := 3) (by decide)
  have g0 : w9.cell? ⟨w.heap.size, 0, none⟩ = some (.int .i64 0) := HR0.out.cell (i := 0) (by decide)
  have g1 : w9.cell? ⟨w.heap.size, 1, none⟩ = some (.int .i64 0) := HR0.out.cell (i := 1) (by decide)
  have g2 : w9.cell? ⟨w.heap.size, 2, none⟩ = some (.int .i64 0) := HR0.out.cell (i := 2) (by decide)
  have g3 : w9.cell? ⟨w.heap.size, 3, none⟩ = some (.int .i64 0) := HR0.out.cell (i := 3) (by decide)
  have fz := HR0.out.frozen
  go_wp2
  refine bodyPost_ret (v := runV (rn tx q l)) ?_ ?_ ?_
  · refine results_cell_mid Try.results34 _ _ w.heap.size (ints (rn tx q l)) _ rfl ?_ Try.underlying71 rfl (by kernel_rfl)
    exact range4 ((((HR0.out.set 0 _).set 1 _).set 2 _).set 3 _) rfl rfl rfl rfl
  · rfl
  · exact ⟨rfl, (((HF.out.setCell (Nat.le_refl _) _).setCell (Nat.le_refl _) _).setCell (Nat.le_refl _) _).setCell (Nat.le_refl _) _⟩
end Go.Proofs.Ytbpldnlafilbbaa
