import Derived.Test.YtaalinlggjimcaaEJ
import Derived.Test.YtaalinlggjimcaaSM
import Derived.Test.YtaalinlggjimcaaGK
namespace Go.Proofs.Ytaalinlggjimcaa
open Go.RowKit
/-! The law's world: the program's side, the reference's side, what the script holds. -/
structure Wx where
  wd : Nat
  mb : Nat
  pg : Nat
  cb : Nat
  nb : Nat
  B : Nat
  S : Nat
  c : Nat → Ca
  x : Rx
  D : Nat → Nat
  Z : Nat → Prop
structure PS (w : World) (X : Wx) (lab : Nat → Nat) (L : Nat → List Nd) (N : Nat → Nat) (cnt : Nat → Nat) (num : Nat → Int) : Prop where
  pool : PoolAt w X.pg X.cb X.nb 1 1 X.B X.S cnt num
  lp : lab X.pg = 2 ∧ lab X.cb = 2 ∧ lab X.nb = 2
  ca : ∀ k, k < 2 → CacheAt w (X.c k) (fun z => lab z = 3 + k) (L k) (N k)
  cc : ∀ k, k < 2 → (X.c k).pg = X.pg ∧ (X.c k).S = X.S ∧ (X.c k).B = X.B
structure RS (w : World) (X : Wx) (lab : Nat → Nat) (L : Nat → List Nd) (N : Nat → Nat) (y : Ry) : Prop where
  ref : RefAt w X.x y
  lr : lab X.x.g = 5 ∧ lab X.x.cb = 5 ∧ lab X.x.kb = 5 ∧ lab X.x.vb = 5
  li : ∀ i, i < X.x.n → lab (y.ka i) = 5 ∧ lab (y.va i) = 5
  rc : ∀ k, k < 2 → ∃ v Ta Tc, RcF w (fun z => lab z = 6 + k) (X.D k) X.x.g v (L k) X.x.S (N k) Ta Tc
  xx : X.x.B = X.B ∧ X.x.S = X.S ∧ X.x.L = 1 ∧ X.x.W = 1
def wcs (X : Wx) : Nat → Value := fun i => if i = 0 then .pointer (some ⟨X.pg, 0, none⟩) else if i = 1 then .pointer (some ⟨(X.c 0).C, 0, none⟩) else if i = 2 then .pointer (some ⟨(X.c 1).C, 0, none⟩) else if i = 3 then .pointer (some ⟨X.x.g, 0, none⟩) else if i = 4 then .pointer (some ⟨X.D 0, 0, none⟩) else if i = 5 then .pointer (some ⟨X.D 1, 0, none⟩) else .slice (some ⟨X.mb, 0, none⟩) X.B X.B
structure WS (w : World) (X : Wx) (lab : Nat → Nat) (mine : Nat → Nat) : Prop where
  row : w.rowIs X.wd 63 7 (wcs X)
  mn : w.rowIs X.mb 3 X.B (fun i => .int .i64 (mine i : Nat))
  lw : lab X.wd = 1 ∧ lab X.mb = 1
  low : ∀ z, lab z ≠ 0 → z < w.heap.size
theorem PS.chg {w w' : World} {X : Wx} {lab : Nat → Nat} {L : Nat → List Nd} {N : Nat → Nat} {cnt : Nat → Nat} {num : Nat → Int} (h : PS w X lab L N cnt num) {T : Nat → Prop} (k : Chg w w' T) (hT : ∀ z, T z → ¬ (2 ≤ lab z ∧ lab z ≤ 4)) : PS w' X lab L N cnt num := by
  obtain ⟨l1, l2, l3⟩ := h.lp
  refine ⟨h.pool.chg k (fun e => hT _ e (by omega)) (fun e => hT _ e (by omega)) (fun e => hT _ e (by omega)), h.lp, fun j hj => (h.ca j hj).chg k (fun b hb e => hT b e ?_), h.cc⟩
  have hb : lab b = 3 + j := hb
  omega
theorem RS.offs {w : World} {X : Wx} {lab : Nat → Nat} {L : Nat → List Nd} {N : Nat → Nat} {y : Ry} (h : RS w X lab L N y) {T : Nat → Prop} (hT : ∀ z, T z → lab z ≠ 5) : Offs T X.x y := by
  obtain ⟨a, b, c, d⟩ := h.lr
  exact ⟨fun e => hT _ e a, fun e => hT _ e b, fun e => hT _ e c, fun e => hT _ e d, fun i hi e => hT _ e (h.li i hi).1, fun i hi e => hT _ e (h.li i hi).2⟩
theorem RS.chg {w w' : World} {X : Wx} {lab : Nat → Nat} {L : Nat → List Nd} {N : Nat → Nat} {y : Ry} (h : RS w X lab L N y) {T : Nat → Prop} (k : Chg w w' T) (hT : ∀ z, T z → ¬ (5 ≤ lab z ∧ lab z ≤ 7)) : RS w' X lab L N y := by
  refine ⟨h.ref.off (h.offs (fun z hz e => hT z hz (by omega))) k, h.lr, h.li, fun j hj => ?_, h.xx⟩
  obtain ⟨v, Ta, Tc, hr⟩ := h.rc j hj
  exact ⟨v, Ta, Tc, hr.chg k (fun z hz e => hT z e (by have hz : lab z = 6 + j := hz; omega))⟩
theorem WS.chg {w w' : World} {X : Wx} {lab : Nat → Nat} {mine : Nat → Nat} (h : WS w X lab mine) {T : Nat → Prop} (k : Chg w w' T) (hT : ∀ z, T z → lab z ≠ 1) : WS w' X lab mine :=
  ⟨k.row h.row (fun e => hT _ e h.lw.1), k.row h.mn (fun e => hT _ e h.lw.2), h.lw, fun z hz => Nat.lt_of_lt_of_le (h.low z hz) k.size⟩
/-- new blocks get a name -/
noncomputable def relab (lab : Nat → Nat) (n : Nat) (A : Nat → Prop) (v : Nat) : Nat → Nat := open Classical in fun z => if n ≤ z ∧ A z then v else lab z
theorem relab_old {lab : Nat → Nat} {n : Nat} {A : Nat → Prop} {v z : Nat} (h : z < n) : relab lab n A v z = lab z := by
  unfold relab
  rw [if_neg (by omega)]
theorem relab_other {lab : Nat → Nat} {n : Nat} {A : Nat → Prop} {v : Nat} (low : ∀ z, lab z ≠ 0 → z < n) {u : Nat} (hu : u ≠ 0) (huv : u ≠ v) (z : Nat) : relab lab n A v z = u ↔ lab z = u := by
  unfold relab
  by_cases e : n ≤ z ∧ A z
  · rw [if_pos e]
    exact ⟨fun q => absurd q.symm huv, fun q => absurd (low z (by omega)) (by omega)⟩
  · rw [if_neg e]
theorem relab_this {lab : Nat → Nat} {n : Nat} {A A' : Nat → Prop} {v : Nat} (hA : ∀ z, A z ↔ lab z = v) (up : ∀ z, A z → A' z) (dn : ∀ z, A' z → A z ∨ n ≤ z) (z : Nat) : relab lab n A' v z = v ↔ A' z := by
  unfold relab
  by_cases e : n ≤ z ∧ A' z
  · rw [if_pos e]
    exact ⟨fun _ => e.2, fun _ => rfl⟩
  · rw [if_neg e]
    refine ⟨fun q => up z ((hA z).2 q), fun q => ?_⟩
    rcases dn z q with r | r
    · exact (hA z).1 r
    · exact absurd ⟨r, q⟩ e
theorem relab_low {lab : Nat → Nat} {n m : Nat} {A : Nat → Prop} {v : Nat} (low : ∀ z, lab z ≠ 0 → z < n) (hn : n ≤ m) (hA : ∀ z, A z → z < m) (z : Nat) (h : relab lab n A v z ≠ 0) : z < m := by
  unfold relab at h
  by_cases e : n ≤ z ∧ A z
  · exact hA z e.2
  · rw [if_neg e] at h
    exact Nat.lt_of_lt_of_le (low z h) hn
theorem PS.relab {w : World} {X : Wx} {lab lab' : Nat → Nat} {L : Nat → List Nd} {N : Nat → Nat} {cnt : Nat → Nat} {num : Nat → Int} (h : PS w X lab L N cnt num) (e : ∀ u, 2 ≤ u → u ≤ 4 → ∀ z, lab' z = u ↔ lab z = u) : PS w X lab' L N cnt num := by
  obtain ⟨l1, l2, l3⟩ := h.lp
  refine ⟨h.pool, ⟨(e 2 (by omega) (by omega) _).2 l1, (e 2 (by omega) (by omega) _).2 l2, (e 2 (by omega) (by omega) _).2 l3⟩, fun k hk => ?_, h.cc⟩
  have : (fun z => lab' z = 3 + k) = (fun z => lab z = 3 + k) := funext fun z => propext (e (3 + k) (by omega) (by omega) z)
  rw [this]
  exact h.ca k hk
theorem RS.relab {w : World} {X : Wx} {lab lab' : Nat → Nat} {L : Nat → List Nd} {N : Nat → Nat} {y : Ry} (h : RS w X lab L N y) (e : ∀ u, 5 ≤ u → u ≤ 7 → ∀ z, lab' z = u ↔ lab z = u) : RS w X lab' L N y := by
  obtain ⟨a, b, c, d⟩ := h.lr
  refine ⟨h.ref, ⟨(e 5 (by omega) (by omega) _).2 a, (e 5 (by omega) (by omega) _).2 b, (e 5 (by omega) (by omega) _).2 c, (e 5 (by omega) (by omega) _).2 d⟩, fun i hi => ⟨(e 5 (by omega) (by omega) _).2 (h.li i hi).1, (e 5 (by omega) (by omega) _).2 (h.li i hi).2⟩, fun k hk => ?_, h.xx⟩
  have : (fun z => lab' z = 6 + k) = (fun z => lab z = 6 + k) := funext fun z => propext (e (6 + k) (by omega) (by omega) z)
  rw [this]
  exact h.rc k hk
theorem WS.relab {w : World} {X : Wx} {lab lab' : Nat → Nat} {mine : Nat → Nat} (h : WS w X lab mine) (e : ∀ z, lab' z = 1 ↔ lab z = 1) (low : ∀ z, lab' z ≠ 0 → z < w.heap.size) : WS w X lab' mine :=
  ⟨h.row, h.mn, ⟨(e _).2 h.lw.1, (e _).2 h.lw.2⟩, low⟩
theorem PS.cells {w : World} {X : Wx} {lab : Nat → Nat} {mine : Nat → Nat} (h : WS w X lab mine) : w.cell? ⟨X.wd, 0, none⟩ = some (.pointer (some ⟨X.pg, 0, none⟩)) ∧ (∀ k, k < 2 → w.cell? ⟨X.wd, 1 + k, none⟩ = some (.pointer (some ⟨(X.c k).C, 0, none⟩))) ∧ w.cell? ⟨X.wd, 3, none⟩ = some (.pointer (some ⟨X.x.g, 0, none⟩)) ∧ (∀ k, k < 2 → w.cell? ⟨X.wd, 4 + k, none⟩ = some (.pointer (some ⟨X.D k, 0, none⟩))) ∧ w.cell? ⟨X.wd, 6, none⟩ = some (.slice (some ⟨X.mb, 0, none⟩) X.B X.B) := by
  refine ⟨h.row.cell (i := 0) (by decide), fun k hk => ?_, h.row.cell (i := 3) (by decide), fun k hk => ?_, h.row.cell (i := 6) (by decide)⟩
  · match k, hk with
    | 0, _ => exact h.row.cell (i := 1) (by decide)
    | 1, _ => exact h.row.cell (i := 2) (by decide)
  · match k, hk with
    | 0, _ => exact h.row.cell (i := 4) (by decide)
    | 1, _ => exact h.row.cell (i := 5) (by decide)
end Go.Proofs.Ytaalinlggjimcaa
namespace Go.Proofs.Ytaalinlggjimcaa
open Go.RowKit
/-! The calls on each side, over the law's world. -/
def setF {α : Type} (f : Nat → α) (k : Nat) (v : α) : Nat → α := fun j => if j = k then v else f j
theorem setF_at {α : Type} (f : Nat → α) (k : Nat) (v : α) : setF f k v k = v := if_pos rfl
theorem setF_ne {α : Type} (f : Nat → α) {k j : Nat} (v : α) (h : j ≠ k) : setF f k v j = f j := if_neg h
section
variable {w w' : World} {X : Wx} {lab : Nat → Nat} {L : Nat → List Nd} {N : Nat → Nat} {cnt : Nat → Nat} {num : Nat → Int} {y : Ry} {mine : Nat → Nat}
/-- one cache of the program's has changed -/
theorem PS.step (h : PS w X lab L N cnt num) {k : Nat} (hk : k < 2) {T : Nat → Prop} (ch : Chg w w' T) (hT : ∀ z, T z → lab z = 3 + k ∨ z = X.cb) {lab' : Nat → Nat} (hl : ∀ u, 2 ≤ u → u ≤ 4 → u ≠ 3 + k → ∀ z, lab' z = u ↔ lab z = u) {cnt' : Nat → Nat} (hp : PoolAt w' X.pg X.cb X.nb 1 1 X.B X.S cnt' num) {L' : List Nd} {N' : Nat} (hc : CacheAt w' (X.c k) (fun z => lab' z = 3 + k) L' N') :
    PS w' X lab' (setF L k L') (setF N k N') cnt' num := by
  obtain ⟨l1, l2, l3⟩ := h.lp
  refine ⟨hp, ⟨(hl 2 (by omega) (by omega) (by omega) _).2 l1, (hl 2 (by omega) (by omega) (by omega) _).2 l2, (hl 2 (by omega) (by omega) (by omega) _).2 l3⟩, fun j hj => ?_, h.cc⟩
  by_cases e : j = k
  · subst e
    rw [setF_at, setF_at]
    exact hc
  · rw [setF_ne _ _ e, setF_ne _ _ e]
    have : (fun z => lab' z = 3 + j) = (fun z => lab z = 3 + j) := funext fun z => propext (hl (3 + j) (by omega) (by omega) (by omega) z)
    rw [this]
    refine (h.ca j hj).chg ch (fun b hb t => ?_)
    have hb : lab b = 3 + j := hb
    rcases hT b t with r | r
    · omega
    · rw [r] at hb; omega
theorem ps_find (h : PS w X lab L N cnt num) {k : Nat} (hk : k < 2) (hN : N k ≤ 4611686018427387904) {tO : Option Addr} {T cap : Nat} {t : Nat → Int} (ht : RdA w tO 1 T cap (fun i => .int .i64 (t i))) (hfit : ∀ i, i < T → fits (t i)) :
    Calls Try.prog 11 #[.pointer (some ⟨(X.c k).C, 0, none⟩), .slice tO T cap] w fun e w' => ∃ q b o g, e = .returned (.slice (some ⟨g, 0, none⟩) q q) ∧ Long (X.c k).C (L k) (pcL t X.S (T / X.S)) q b o ∧ w'.rowIs g 3 q (fun j => .int .i64 (bkF (L k) (pcL t X.S (T / X.S)) j : Nat)) ∧ w.heap.size ≤ g ∧ PS w' X lab (setF L k (useL (L k) ((pcL t X.S (T / X.S)).take q) (N k + 1))) (setF N k (N k + 1)) cnt num ∧ Chg w w' (fun z => lab z = 3 + k) := by
  have hS := (h.cc k hk).2.1
  have hf := find_any (h.ca k hk) hN ht hfit
  rw [hS] at hf
  refine hf.mono ?_
  rintro e w' ⟨q, b, o, g, F, rfl, hl, hr, hF, hg, hc, hch⟩
  obtain ⟨l1, l2, l3⟩ := h.lp
  refine ⟨q, b, o, g, rfl, hl, hr.congr (fun j hj => ?_), hg, ?_, hch⟩
  · obtain ⟨x, hx, ex⟩ := hl.at (h.ca k hk).well hj
    rw [hF j hj x hx ex, bkF_eq (h.ca k hk).well hx ex]
  · exact h.step hk hch (fun z hz => .inl hz) (fun _ _ _ _ _ => Iff.rfl) (h.pool.chg hch (fun e => by omega) (fun e => by omega) (fun e => by omega)) hc
theorem ps_len (h : PS w X lab L N cnt num) {k : Nat} (hk : k < 2) : Calls Try.prog 14 #[.pointer (some ⟨(X.c k).C, 0, none⟩)] w fun e w' => e = .returned (.int .i64 ((L k).length : Nat)) ∧ w' = w := len_any (h.ca k hk)
theorem ps_shrink (h : PS w X lab L N cnt num) {k : Nat} (hk : k < 2) (n : Int) :
    Calls Try.prog 13 #[.pointer (some ⟨(X.c k).C, 0, none⟩), .int .i64 n] w fun e w' => ∃ j : Nat, e = .returned (.int .i64 (j : Int)) ∧ ∃ (L' : List Nd) (cnt' : Nat → Nat), Shr X.B (L k) cnt j L' cnt' ∧ ((j : Int) ≤ n ∨ j = 0) ∧ (n ≤ (j : Int) ∨ LeastTo L' cnt' X.B nilP) ∧ PS w' X lab (setF L k L') (setF N k (N k)) cnt' num ∧ Chg w w' (fun z => lab z = 3 + k ∨ z = X.cb) := by
  obtain ⟨c1, c2, c3⟩ := h.cc k hk
  obtain ⟨l1, l2, l3⟩ := h.lp
  have hp := h.pool
  rw [← c1, ← c3] at hp
  have hs := shrink_any (h.ca k hk) hp (by show ¬ lab (X.c k).pg = 3 + k; rw [c1]; omega) (by show ¬ lab X.cb = 3 + k; omega) (by show ¬ lab X.nb = 3 + k; omega) n
  refine hs.mono ?_
  rintro e w' ⟨j, rfl, L', cnt', a1, a2, a3, a4, a5, a6⟩
  rw [c3] at a1 a3 a5
  rw [c1] at a5
  exact ⟨j, rfl, L', cnt', a1, a2, a3, h.step hk a6 (fun _ e => e) (fun _ _ _ _ _ => Iff.rfl) a5 a4, a6⟩
/-- no more blocks than there are -/
theorem few_blocks {c : Ca} {M : List Nd} {N' : Nat} (hw : Well c M N') {P : List (List Int)} {k b o n : Nat} (hP : P.length = n) (hl : Long c.C M P k b o) {gn : Nat → Nat} (hg : ∀ i, i < n → gn i < c.B) (hno : Nobodys M (fun i => gn (k + i)) (n - k)) : n ≤ c.B := by
  have hkn : k ≤ n := by rw [← hP]; exact hl.le
  have hkM : k ≤ M.length := by
    rcases Nat.eq_zero_or_pos k with e | e
    · omega
    · obtain ⟨z, hz, ez⟩ := hl.at hw (r := k - 1) (by omega)
      have := hw.deep hz
      rw [ez, List.length_take] at this
      omega
  have h1 : (M.map (·.blk)).Nodup := map_nodup _ _ hw.nodup hw.dblk
  have h2 : ((List.range (n - k)).map (fun i => gn (k + i))).Nodup := map_nodup _ _ List.nodup_range (fun i hi j hj e => by
    have hi := List.mem_range.1 hi
    have hj := List.mem_range.1 hj
    rcases Nat.lt_trichotomy i j with q | q | q
    · exact absurd e (hno.2 i j q hj)
    · exact q
    · exact absurd e.symm (hno.2 j i q hi))
  have h3 : (M.map (·.blk) ++ (List.range (n - k)).map (fun i => gn (k + i))).Nodup := List.nodup_append.2 ⟨h1, h2, fun a ha b hb e => by
    obtain ⟨z, hz, rfl⟩ := List.mem_map.1 ha
    obtain ⟨i, hi, rfl⟩ := List.mem_map.1 hb
    exact hno.1 i (List.mem_range.1 hi) z hz e⟩
  have := nodup_len _ (List.range c.B) h3 (fun a ha => by
    rcases List.mem_append.1 ha with ha | ha
    · obtain ⟨z, hz, rfl⟩ := List.mem_map.1 ha
      exact List.mem_range.2 (hw.blk z hz)
    · obtain ⟨i, hi, rfl⟩ := List.mem_map.1 ha
      exact List.mem_range.2 (hg _ (by have := List.mem_range.1 hi; omega)))
  simp at this
  omega
end
end Go.Proofs.Ytaalinlggjimcaa
namespace Go.Proofs.Ytaalinlggjimcaa
open Go.RowKit
/-! Keep on the program's side; the reference's calls. -/
/-- what a call leaves of the names: new blocks get one alone -/
structure Lab (lab lab' : Nat → Nat) (w w' : World) (v : Nat) : Prop where
  other : ∀ u, u ≠ 0 → u ≠ v → ∀ z, lab' z = u ↔ lab z = u
  old : ∀ z, z < w.heap.size → lab' z = lab z
  low : ∀ z, lab' z ≠ 0 → z < w'.heap.size
theorem Lab.refl {lab : Nat → Nat} {w w' : World} (v : Nat) (low : ∀ z, lab z ≠ 0 → z < w.heap.size) (h : w.heap.size ≤ w'.heap.size) : Lab lab lab w w' v := ⟨fun _ _ _ _ => Iff.rfl, fun _ _ => rfl, fun z hz => Nat.lt_of_lt_of_le (low z hz) h⟩
section
variable {w w' : World} {X : Wx} {lab : Nat → Nat} {L : Nat → List Nd} {N : Nat → Nat} {cnt : Nat → Nat} {num : Nat → Int} {y : Ry} {mine : Nat → Nat}
def KeepQ (w : World) (X : Wx) (lab : Nat → Nat) (L : Nat → List Nd) (N : Nat → Nat) (cnt : Nat → Nat) (num : Nat → Int) (k : Nat) (P : List (List Int)) (g : Nat → Int) (gn : Nat → Nat) (m n q : Nat) (e : Ending) (w' : World) : Prop :=
  (e = .returned (.int .i64 61) ∧ BadK (L k) cnt X.B g m n q ∧ Below w.heap.size w w') ∨ (e = .returned (.int .i64 0) ∧ ¬ BadK (L k) cnt X.B g m n q ∧ ∃ lab' L' news, Ext (L k) P gn q (n - q) L' news ∧ PS w' X lab' (setF L k (useL L' P (N k + 1))) (setF N k (N k + 1)) (addC cnt gn q (n - q)) num ∧ Lab lab lab' w w' (3 + k) ∧ Chg w w' (fun z => lab z = 3 + k ∨ z = X.cb))
theorem ps_keep (h : PS w X lab L N cnt num) (low : ∀ z, lab z ≠ 0 → z < w.heap.size) {k : Nat} (hk : k < 2) (hN : N k ≤ 4611686018427387904) {tO : Option Addr} {T cap : Nat} {t : Nat → Int} (ht : RdA w tO 1 T cap (fun i => .int .i64 (t i))) (hfit : ∀ i, i < T → fits (t i)) {bb boff m bcap : Nat} {g : Nat → Int} (hb : RdA w (some ⟨bb, boff, none⟩) 1 m bcap (fun i => .int .i64 (g i))) (hbc : m < bcap) (ob : lab bb = 0) (hcnt : ∀ b, cnt b ≤ 1152921504606846976) {n : Nat} (hn : n = T / X.S) {q b0 o0 : Nat} (hl : Long (X.c k).C (L k) (pcL t X.S n) q b0 o0) :
    Calls Try.prog 12 #[.pointer (some ⟨(X.c k).C, 0, none⟩), .slice tO T cap, .slice (some ⟨bb, boff, none⟩) m bcap] w (KeepQ w X lab L N cnt num k (pcL t X.S n) g (fun i => (g i).toNat) m n q) := by
  obtain ⟨c1, c2, c3⟩ := h.cc k hk
  obtain ⟨l1, l2, l3⟩ := h.lp
  have hp := h.pool
  rw [← c1, ← c3] at hp
  have hT : T ≤ 9223372036854775807 := by have := ht.le; have := ht.top; unfold maxLen at this; omega
  have hm : m ≤ 9223372036854775807 := by have := hb.le; have := hb.top; unfold maxLen at this; omega
  have hw := (h.ca k hk).well
  rw [← c2] at hn hl
  have hqn : q ≤ n := by have := hl.le; rw [pcL_len] at this; exact this
  by_cases h1 : m < n
  · refine (keep_few (h.ca k hk) tO _ hT hm hn (.inl h1)).mono ?_
    rintro e w' ⟨rfl, rfl⟩
    exact .inl ⟨rfl, .inl h1, Below.refl _ _⟩
  by_cases h2 : ∃ i, i < n ∧ cntI cnt X.B (g i) = 0
  · by_cases h3 : (X.c k).B < n
    · refine (keep_few (h.ca k hk) tO _ hT hm hn (.inr h3)).mono ?_
      rintro e w' ⟨rfl, rfl⟩
      exact .inl ⟨rfl, .inr (.inl h2), Below.refl _ _⟩
    · refine (keep_free (h.ca k hk) hp tO hT hb hn (by omega) (by omega) (by rw [c3]; exact h2)).mono ?_
      rintro e w' ⟨rfl, rfl⟩
      exact .inl ⟨rfl, .inr (.inl h2), Below.refl _ _⟩
  have hg : ∀ i, i < n → g i = ((g i).toNat : Int) ∧ (g i).toNat < (X.c k).B ∧ cnt (g i).toNat ≠ 0 := fun i hi => by
    have : cntI cnt X.B (g i) ≠ 0 := fun e => h2 ⟨i, hi, e⟩
    unfold cntI at this
    by_cases e : 0 ≤ g i ∧ g i < X.B
    · rw [if_pos e] at this
      exact ⟨by omega, by rw [c3]; omega, this⟩
    · rw [if_neg e] at this
      exact absurd rfl this
  have hnob : Nobodys (L k) (fun i => (g (q + i)).toNat) (n - q) ↔ ¬ ∃ i, q ≤ i ∧ i < n ∧ ((∃ z ∈ L k, (z.blk : Int) = g i) ∨ ∃ j, i < j ∧ j < n ∧ g j = g i) := by
    constructor
    · rintro ⟨a1, a2⟩ ⟨i, i1, i2, i3⟩
      rcases i3 with ⟨z, hz, e⟩ | ⟨j, j1, j2, e⟩
      · refine a1 (i - q) (by omega) z hz ?_
        show z.blk = (g (q + (i - q))).toNat
        rw [show q + (i - q) = i by omega]
        have := (hg i i2).1
        omega
      · refine a2 (i - q) (j - q) (by omega) (by omega) ?_
        show (g (q + (i - q))).toNat = (g (q + (j - q))).toNat
        rw [show q + (i - q) = i by omega, show q + (j - q) = j by omega, e]
    · intro hno
      refine ⟨fun i hi z hz e => hno ⟨q + i, by omega, by omega, .inl ⟨z, hz, ?_⟩⟩, fun i j h1 h2 e => hno ⟨q + i, by omega, by omega, .inr ⟨q + j, by omega, by omega, ?_⟩⟩⟩
      · have e : z.blk = (g (q + i)).toNat := e
        rw [(hg (q + i) (by omega)).1, e]
      · have e : (g (q + i)).toNat = (g (q + j)).toNat := e
        rw [(hg (q + i) (by omega)).1, (hg (q + j) (by omega)).1, e]
  by_cases h4 : Nobodys (L k) (fun i => (g (q + i)).toNat) (n - q)
  · have hnB : n ≤ (X.c k).B := few_blocks hw (pcL_len t _ n) hl (gn := fun i => (g i).toNat) (fun i hi => (hg i hi).2.1) h4
    have hnb : ¬ BadK (L k) cnt X.B g m n q := fun e => by
      rcases e with e | e | e
      · exact h1 e
      · exact h2 e
      · exact (hnob.1 h4) e
    refine (keep_okz (h.ca k hk) hN hp (by show ¬ lab (X.c k).pg = 3 + k; rw [c1]; omega) (by show ¬ lab X.cb = 3 + k; omega) (by show ¬ lab X.nb = 3 + k; omega) ht hfit hb (by show ¬ lab bb = 3 + k; omega) (fun e => by rw [e] at ob; omega) hn (gn := fun i => (g i).toNat) (fun i hi => (hg i hi).1) (by omega) hnB (fun i hi => (hg i hi).2.1) (fun i hi => (hg i hi).2.2) (fun i hi => hcnt _) (fun k' b' o' hl' => ?_)).mono ?_
    · have := hl'.uniq hl
      subst this
      exact ⟨by omega, h4⟩
    · rintro e w' ⟨k', b', o', A', L', news, rfl, hl', hK⟩
      have := hl'.uniq hl
      subst this
      have hE := hK.ext
      have hP := hK.pool
      have hC := hK.cache
      rw [pcL_len] at hE hP
      rw [c1, c3] at hP
      rw [c2] at hE hC
      have hthis : ∀ z, relab lab w.heap.size A' (3 + k) z = 3 + k ↔ A' z := relab_this (A := fun z => lab z = 3 + k) (fun _ => Iff.rfl) hK.up hK.dn
      have hfe : (fun z => relab lab w.heap.size A' (3 + k) z = 3 + k) = A' := funext fun z => propext (hthis z)
      refine .inr ⟨rfl, hnb, relab lab w.heap.size A' (3 + k), L', news, hE, ?_, ⟨fun u h0 h1 => relab_other low h0 h1, fun z hz => relab_old hz, fun z hz => relab_low low hK.chg.size hC.low z hz⟩, hK.chg⟩
      refine h.step hk hK.chg (fun z e => e) (fun u h0 h1 h2 => relab_other low (by omega) h2) hP ?_
      rw [hfe]
      exact hC
  · have hbad : BadK (L k) cnt X.B g m n q := .inr (.inr (Classical.not_not.1 (fun e => h4 (hnob.2 e))))
    by_cases h3 : (X.c k).B < n
    · refine (keep_few (h.ca k hk) tO _ hT hm hn (.inr h3)).mono ?_
      rintro e w' ⟨rfl, rfl⟩
      exact .inl ⟨rfl, hbad, Below.refl _ _⟩
    · refine (keep_takenz (h.ca k hk) hp ht hfit hb hn (gn := fun i => (g i).toNat) (fun i hi => (hg i hi).1) (by omega) (by omega) (fun i hi => (hg i hi).2.1) (fun i hi => (hg i hi).2.2) hl h4).mono ?_
      rintro e w' ⟨rfl, hf⟩
      exact .inl ⟨rfl, hbad, hf⟩
theorem RS.step (h : RS w X lab L N y) {k : Nat} {T : Nat → Prop} (ch : Chg w w' T) (hT : ∀ z, T z → lab z = 6 + k ∨ z = X.x.cb) {lab' : Nat → Nat} (hk : k < 2) (hl : ∀ u, 5 ≤ u → u ≤ 7 → u ≠ 6 + k → ∀ z, lab' z = u ↔ lab z = u) {cnt' : Nat → Nat} (hp : RefAt w' X.x { y with cnt := cnt' }) {L' : List Nd} {N' : Nat} (hc : ∃ v Ta Tc, RcF w' (fun z => lab' z = 6 + k) (X.D k) X.x.g v L' X.x.S N' Ta Tc) :
    RS w' X lab' (setF L k L') (setF N k N') { y with cnt := cnt' } := by
  obtain ⟨a, b, c, d⟩ := h.lr
  refine ⟨hp, ⟨(hl 5 (by omega) (by omega) (by omega) _).2 a, (hl 5 (by omega) (by omega) (by omega) _).2 b, (hl 5 (by omega) (by omega) (by omega) _).2 c, (hl 5 (by omega) (by omega) (by omega) _).2 d⟩, fun i hi => ⟨(hl 5 (by omega) (by omega) (by omega) _).2 (h.li i hi).1, (hl 5 (by omega) (by omega) (by omega) _).2 (h.li i hi).2⟩, fun j hj => ?_, h.xx⟩
  by_cases e : j = k
  · subst e
    rw [setF_at, setF_at]
    exact hc
  · rw [setF_ne _ _ e, setF_ne _ _ e]
    have : (fun z => lab' z = 6 + j) = (fun z => lab z = 6 + j) := funext fun z => propext (hl (6 + j) (by omega) (by omega) (by omega) z)
    rw [this]
    obtain ⟨v, Ta, Tc, hr⟩ := h.rc j hj
    refine ⟨v, Ta, Tc, hr.chg ch (fun z hz t => ?_)⟩
    have hz : lab z = 6 + j := hz
    rcases hT z t with r | r
    · omega
    · rw [r] at hz; omega
theorem rs_len (h : RS w X lab L N y) {k : Nat} (hk : k < 2) : Calls Try.prog 56 #[.pointer (some ⟨X.D k, 0, none⟩)] w fun e w' => e = .returned (.int .i64 ((L k).length : Nat)) ∧ w' = w := by
  obtain ⟨v, Ta, Tc, hr⟩ := h.rc k hk
  exact rlen_any hr.at_
theorem rs_find (h : RS w X lab L N y) {k : Nat} (hk : k < 2) {c : Ca} {N' : Nat} (hw : Well c (L k) N') (hc : Cut X.S (L k)) (hN : N k ≤ 4611686018427387904) {tO : Option Addr} {T cap : Nat} {t : Nat → Int} (ht : RdA w tO 1 T cap (fun i => .int .i64 (t i))) (hto : 0 < T → ∀ b off, tO = some ⟨b, off, none⟩ → lab b = 0) {q bb oo : Nat} (hl : Long c.C (L k) (pcL t X.S (T / X.S)) q bb oo) :
    Calls Try.prog 32 #[.pointer (some ⟨X.D k, 0, none⟩), .slice tO T cap] w fun e w' => ∃ vl, e = .returned vl ∧ Own w' w.heap.size 3 1 vl q (fun j => .int .i64 (bkF (L k) (pcL t X.S (T / X.S)) j : Nat)) ∧ RS w' X lab (setF L k (useL (L k) ((pcL t X.S (T / X.S)).take q) (N k + 1))) (setF N k (N k + 1)) y ∧ Chg w w' (fun z => lab z = 6 + k) := by
  obtain ⟨v, Ta, Tc, hr⟩ := h.rc k hk
  obtain ⟨x1, x2, x3, x4⟩ := h.xx
  rw [← x2] at hc hl
  have ho : Offs (fun z => lab z = 6 + k) X.x y := h.offs (fun z hz e => by have hz : lab z = 6 + k := hz; omega)
  have := rfind_any hr h.ref ho hc hw hN ht (fun h0 b off e q => by have q : lab b = 6 + k := q; have := hto h0 b off e; omega) hl
  rw [x2] at this
  refine this.mono ?_
  rintro e w' ⟨vl, rfl, hown, hrc, hch⟩
  refine ⟨vl, rfl, hown, ?_, hch⟩
  exact h.step hch (fun z hz => .inl hz) hk (fun _ _ _ _ _ => Iff.rfl) (h.ref.off ho hch) ⟨v, Ta, Tc, by rw [x2]; exact hrc⟩
def RKeepQ (w : World) (X : Wx) (lab : Nat → Nat) (L : Nat → List Nd) (N : Nat → Nat) (y : Ry) (k : Nat) (P : List (List Int)) (g : Nat → Int) (gn : Nat → Nat) (m n q : Nat) (e : Ending) (w' : World) : Prop :=
  (e = .returned (.int .i64 61) ∧ BadK (L k) y.cnt X.B g m n q ∧ Below w.heap.size w w') ∨ (e = .returned (.int .i64 0) ∧ ¬ BadK (L k) y.cnt X.B g m n q ∧ ∃ lab', (∀ L' news, Ext (L k) P gn q (n - q) L' news → RS w' X lab' (setF L k (useL L' P (N k + 1))) (setF N k (N k + 1)) { y with cnt := addC y.cnt gn q (n - q) }) ∧ Lab lab lab' w w' (6 + k) ∧ Chg w w' (fun z => lab z = 6 + k ∨ z = X.x.cb))
theorem rs_keep (h : RS w X lab L N y) (low : ∀ z, lab z ≠ 0 → z < w.heap.size) {k : Nat} (hk : k < 2) {c : Ca} {N' : Nat} (hw : Well c (L k) N') (hcB : c.B = X.B) (hc : Cut X.S (L k)) (hN : N k ≤ 4611686018427387904) {tO : Option Addr} {T cap : Nat} {t : Nat → Int} (ht : RdA w tO 1 T cap (fun i => .int .i64 (t i))) (hto : 0 < T → ∀ b off, tO = some ⟨b, off, none⟩ → lab b = 0) (hTs : T ≤ 2147483647) {bO : Option Addr} {m bcap : Nat} {g : Nat → Int} (hb : RdA w bO 1 m bcap (fun i => .int .i64 (g i))) (hbo : 0 < m → ∀ b off, bO = some ⟨b, off, none⟩ → lab b = 0) (hcnt : ∀ b, y.cnt b ≤ 1152921504606846976) {n : Nat} (hn : n = T / X.S) {q bb oo : Nat} (hl : Long c.C (L k) (pcL t X.S n) q bb oo) :
    Calls Try.prog 30 #[.pointer (some ⟨X.D k, 0, none⟩), .slice tO T cap, .slice bO m bcap] w (RKeepQ w X lab L N y k (pcL t X.S n) g (fun i => (g i).toNat) m n q) := by
  obtain ⟨v, Ta, Tc, hr⟩ := h.rc k hk
  obtain ⟨x1, x2, x3, x4⟩ := h.xx
  rw [← x2] at hc hl hn
  rw [← x1] at hcB
  have hcb := h.lr.2.1
  have ho : Offs (fun z => lab z = 6 + k) X.x y := h.offs (fun z hz e => by have hz : lab z = 6 + k := hz; omega)
  have := rkeep_any hr h.ref ho hc hw hcB hN ht (fun h0 b off e q => by
    have e0 := hto h0 b off e
    rcases q with q | q
    · have q : lab b = 6 + k := q
      omega
    · rw [q] at e0; omega) hTs hb (fun h0 b off e q => by
    have e0 := hbo h0 b off e
    rcases q with q | q
    · have q : lab b = 6 + k := q
      omega
    · rw [q] at e0; omega) hn hl hcnt
  refine this.mono ?_
  rintro e w' (⟨h1, h2, h3⟩ | ⟨h1, h2, R', v', Ta', Tc', hK⟩)
  · rw [x1] at h2
    exact .inl ⟨h1, h2, h3⟩
  · rw [x1] at h2
    refine .inr ⟨h1, h2, relab lab w.heap.size R' (6 + k), fun L' news hE => ?_, ⟨fun u h0 h1 => relab_other low h0 h1, fun z hz => relab_old hz, fun z hz => relab_low low hK.chg.size hK.rc.low z hz⟩, hK.chg⟩
    have hthis : ∀ z, relab lab w.heap.size R' (6 + k) z = 6 + k ↔ R' z := relab_this (A := fun z => lab z = 6 + k) (fun _ => Iff.rfl) hK.up hK.dn
    have hfe : (fun z => relab lab w.heap.size R' (6 + k) z = 6 + k) = R' := funext fun z => propext (hthis z)
    refine h.step hK.chg (fun z e => e) hk (fun u h0 h1 h2 => relab_other low (by omega) h2) hK.ref ⟨v', Ta', Tc', ?_⟩
    rw [hfe]
    have hPl := pcL_len t X.x.S n
    have hrc := hK.rc
    rw [← x2] at hE
    have hE2 : Ext (L k) (pcL t X.x.S n) (fun i => (g i).toNat) q ((pcL t X.x.S n).length - q) L' news := by rw [hPl]; exact hE
    have hlen : (Mi (L k) (pcL t X.x.S n) (fun i => (g i).toNat) q (pcL t X.x.S n).length (N k + 1)).length = (useL L' (pcL t X.x.S n) (N k + 1)).length := by
      rw [Mi_len, useL_len, hE2.eq, List.length_append, hE2.len]
    have hrc2 : RcF w' R' (X.D k) X.x.g v' (Mi (L k) (pcL t X.x.S n) (fun i => (g i).toNat) q (pcL t X.x.S n).length (N k + 1)) X.x.S (N k + 1) Ta' Tc' := by rw [hPl]; exact hrc
    rw [x2] at hrc2 hlen hE2 ⊢
    exact hrc2.congr hlen (fun j hj => Mi_end hE2 hj)
theorem rs_shrink (h : RS w X lab L N y) (low : ∀ z, lab z ≠ 0 → z < w.heap.size) {k : Nat} (hk : k < 2) {c : Ca} {N' : Nat} (hw : Well c (L k) N') (hcB : c.B = X.B) (hc : Cut X.S (L k)) (ht : Tie (L k)) (n : Int) :
    Calls Try.prog 55 #[.pointer (some ⟨X.D k, 0, none⟩), .int .i64 n] w fun e w' => ∃ j : Nat, e = .returned (.int .i64 (j : Int)) ∧ ∃ (L' : List Nd) (cnt' : Nat → Nat) (lab' : Nat → Nat), Shr X.B (L k) y.cnt j L' cnt' ∧ ((j : Int) ≤ n ∨ j = 0) ∧ (n ≤ (j : Int) ∨ LeastTo L' cnt' X.B nilP) ∧ (Cut X.S L' ∧ Tie L') ∧ RS w' X lab' (setF L k L') (setF N k (N k)) { y with cnt := cnt' } ∧ Lab lab lab' w w' (6 + k) ∧ Chg w w' (fun z => lab z = 6 + k ∨ z = X.x.cb) := by
  obtain ⟨v, Ta, Tc, hr⟩ := h.rc k hk
  obtain ⟨x1, x2, x3, x4⟩ := h.xx
  rw [← x2] at hc
  rw [← x1] at hcB
  have ho : Offs (fun z => lab z = 6 + k) X.x y := h.offs (fun z hz e => by have hz : lab z = 6 + k := hz; omega)
  refine (rshrink_any hr h.ref ho hc hw ht hcB n).mono ?_
  rintro e w' ⟨j, rfl, L', cnt', ⟨R', v', Ta', Tc', hK⟩, hend⟩
  have hthis : ∀ z, relab lab w.heap.size R' (6 + k) z = 6 + k ↔ R' z := relab_this (A := fun z => lab z = 6 + k) (fun _ => Iff.rfl) hK.up hK.dn
  have hfe : (fun z => relab lab w.heap.size R' (6 + k) z = 6 + k) = R' := funext fun z => propext (hthis z)
  have hs := hK.shr
  rw [hcB, x1] at hs hend
  refine ⟨j, rfl, L', cnt', relab lab w.heap.size R' (6 + k), hs, hK.le, hend, ⟨by rw [← x2]; exact hK.cut, hK.tie⟩, ?_, ⟨fun u h0 h1 => relab_other low h0 h1, fun z hz => relab_old hz, fun z hz => relab_low low hK.chg.size hK.rc.low z hz⟩, hK.chg⟩
  refine h.step hK.chg (fun z e => e) hk (fun u h0 h1 h2 => relab_other low (by omega) h2) hK.ref ⟨v', Ta', Tc', ?_⟩
  rw [hfe]
  exact hK.rc
end
end Go.Proofs.Ytaalinlggjimcaa
namespace Go.Proofs.Ytaalinlggjimcaa
open Go.RowKit
/-! Lists with marks behind them. -/
def mkd (f : Nat → Int) (n : Nat) : Nat → Int := fun i => if i < n then f i else -123456
set_option maxRecDepth 20000 in
set_option maxHeartbeats 1600000 in
theorem marked_any {w : World} {ao : Option Addr} {n cap : Nat} {f : Nat → Int} (h : RdA w ao 1 n cap (fun i => .int .i64 (f i))) (hn : n ≤ 2147483647) :
    Calls Try.prog 53 #[.slice ao n cap] w fun e w' => e = .returned (.slice (some ⟨w.heap.size, 0, none⟩) n (n + 64)) ∧ w'.rowIs w.heap.size 3 (n + 64) (fun i => .int .i64 (mkd f n i)) ∧ Below w.heap.size w w' := by
  obtain ⟨c, hc⟩ : ∃ c, c = n + 64 := ⟨_, rfl⟩
  have e1 : (n : Int) + 64 = (c : Int) := by omega
  obtain ⟨iI, hiI, zI0, zI1, zI2⟩ := info_parts infoI
  have hmk : ∀ w, (Instr.makeSlice 22 (.int .i64 (c : Int)) (.int .i64 (c : Int))).run Try.prog w = .ok (.slice (some ⟨w.heap.size, 0, none⟩) c c) (w.alloc (.cells (madeCells #[.int .i64 0] c) 3)) := run_make_row 22 3 iI (.int .i64 0) Try.underlying22 hiI zI0 zI1 rfl .i64 .i64 c (by rw [zI2]; omega) (by omega)
  clear hiI zI0 zI1 zI2
  have R0 := hidd (World.rowIs_made w (.int .i64 0) c 3)
  have f0 := fresh_alloc w (.cells (madeCells #[.int .i64 0] c) 3)
  have HCE := hidd hc
  rw [← hc]
  clear hc
  go_enter Try.func53, Try.ntmps53
  go_wp2
  clear hmk
  go_loopw [4] (fun i wr => ∃ k : Nat, k ≤ c ∧ i = .int .i64 k ∧ Hid (wr.rowIs w.heap.size 3 c (fun j => .int .i64 (if j < k then mkd f n j else 0))) ∧ Below w.heap.size w wr) (fun i _ => c - (intOf i).toNat)
  case atStart => exact ⟨0, by omega, rfl, R0.out, f0⟩
  case round =>
    clear R0 f0
    obtain ⟨k, hk, rfl, HR, hf⟩ := hrel
    have hsz := hf.size
    by_cases hlt : k < c
    · have c0 := HR.out.cell (i := k) hlt
      have fz := HR.out.frozen
      have r1 := HR.out.set k (.int .i64 (-123456))
      have c1 := r1.cell (i := k) hlt
      rw [if_pos rfl] at c1
      have fz1 := r1.frozen
      have HR1 := hidd r1
      have hf1 : Below w.heap.size w (wr.setCell ⟨w.heap.size, k, none⟩ (.int .i64 (-123456))) := hf.setCell (Nat.le_refl _) _
      clear r1
      have k0 : (0 : Int) ≤ (k : Int) := by omega
      have k1 : (k : Int) < (c : Int) := by omega
      by_cases hkn : k < n
      · have hd : decide ((k : Int) < (n : Int)) = true := by simp; omega
        have k2 : (k : Int) < (n : Int) := by omega
        obtain ⟨b1, o1, rfl, h1⟩ := h.one (by omega)
        have d := fresh_cell hf1 (h1 k hkn)
        clear h1
        have HR2 := hidd (HR1.out.set k (.int .i64 (f k)))
        have HV : Hid (mkd f n k = f k) := if_pos hkn
        generalize f k = y at d HR2 HV
        go_wp2
        go_roundw
        case rel =>
          refine ⟨k + 1, by omega, by go_num, HR2.out.congr (fun j hj => ?_), hf1.setCell (Nat.le_refl _) _⟩
          by_cases e : j = k
          · subst e
            rw [if_pos rfl, if_pos (by omega), HV.out]
          · rw [if_neg e, if_neg e]
            by_cases e2 : j < k
            · rw [if_pos e2, if_pos (by omega)]
            · rw [if_neg e2, if_neg (by omega)]
        case measure => simp [intOf]; omega
      · have hd : decide ((k : Int) < (n : Int)) = false := by simp; omega
        have HV : Hid (mkd f n k = -123456) := if_neg hkn
        go_wp2
        go_roundw
        case rel =>
          refine ⟨k + 1, by omega, by go_num, HR1.out.congr (fun j hj => ?_), hf1⟩
          by_cases e : j = k
          · subst e
            rw [if_pos rfl, if_pos (by omega), HV.out]
          · rw [if_neg e]
            by_cases e2 : j < k
            · rw [if_pos e2, if_pos (by omega)]
            · rw [if_neg e2, if_neg (by omega)]
        case measure => simp [intOf]; omega
    · obtain rfl : c = k := by omega
      have n0 : (0 : Int) ≤ (n : Int) := by omega
      have n1 : (n : Int) ≤ (c : Int) := by omega
      go_wp2
      go_ret
      exact ⟨rfl, HR.out.congr (fun j hj => by rw [if_pos hj]), hf⟩
set_option maxRecDepth 20000 in
set_option maxHeartbeats 1600000 in
theorem still_any {w : World} {ao : Option Addr} {n cap g : Nat} {f : Nat → Int} (h : RdA w ao 1 n cap (fun i => .int .i64 (f i))) (hr : w.rowIs g 3 (n + 64) (fun i => .int .i64 (mkd f n i))) (hn : n ≤ 2147483647) :
    Calls Try.prog 54 #[.slice (some ⟨g, 0, none⟩) n (n + 64), .slice ao n cap] w fun e w' => e = .returned (.bool true) ∧ Below w.heap.size w w' := by
  obtain ⟨c, hc⟩ : ∃ c, c = n + 64 := ⟨_, rfl⟩
  have e1 : (n : Int) + 64 = (c : Int) := by omega
  rw [← hc] at hr ⊢
  have HR := hidd hr
  have hcn : n ≤ c := by omega
  have hcb : c ≤ 2147483711 := by omega
  have n0 : (0 : Int) ≤ (c : Int) := by omega
  clear hr hc
  go_enter Try.func54, Try.ntmps54
  go_wp2
  go_loopw [6] (fun i wr => ∃ k : Nat, k ≤ c ∧ i = .int .i64 k ∧ Below w.heap.size w wr) (fun i _ => c - (intOf i).toNat)
  case atStart => exact ⟨0, by omega, rfl, Below.refl _ _⟩
  case round =>
    obtain ⟨k, hk, rfl, hf⟩ := hrel
    by_cases hlt : k < c
    · have c0 := fresh_cell hf (HR.out.cell (i := k) hlt)
      have k0 : (0 : Int) ≤ (k : Int) := by omega
      have k1 : (k : Int) < (c : Int) := by omega
      by_cases hkn : k < n
      · have hd : decide ((k : Int) < (n : Int)) = true := by simp; omega
        have hd2 : decide (n ≤ k) = false := by simp; omega
        have k2 : (k : Int) < (n : Int) := by omega
        obtain ⟨b1, o1, rfl, h1⟩ := (h.fresh hf).one (by omega)
        have d := h1 k hkn
        clear h1
        have HV : mkd f n k = f k := if_pos hkn
        rw [HV] at c0
        clear HV
        generalize f k = y at d c0
        go_wp2
        go_quiet (fail)
        go_wp2
        go_roundw
        case rel => exact ⟨k + 1, by omega, by go_num, below_drewN hf _⟩
        case measure => simp [intOf]; omega
      · have hd : decide ((k : Int) < (n : Int)) = false := by simp; omega
        have hd2 : decide (n ≤ k) = true := by simp; omega
        have HV : mkd f n k = -123456 := if_neg hkn
        rw [HV] at c0
        clear HV
        go_wp2
        go_quiet (fail)
        go_wp2
        go_roundw
        case rel => exact ⟨k + 1, by omega, by go_num, below_drewN hf _⟩
        case measure => simp [intOf]; omega
    · obtain rfl : c = k := by omega
      go_wp2
      go_ret
      exact ⟨rfl, hf⟩
end Go.Proofs.Ytaalinlggjimcaa
namespace Go.Proofs.Ytaalinlggjimcaa
open Go.RowKit
/-! The pools over the law's world; what the script holds; counts. -/
section
variable {w w' : World} {X : Wx} {lab : Nat → Nat} {L : Nat → List Nd} {N : Nat → Nat} {cnt : Nat → Nat} {num : Nat → Int} {y : Ry} {mine : Nat → Nat}
theorem PS.pools (h : PS w X lab L N cnt num) {T : Nat → Prop} (ch : Chg w w' T) (hT : ∀ z, T z → lab z = 2) {cnt' : Nat → Nat} {num' : Nat → Int} (hp : PoolAt w' X.pg X.cb X.nb 1 1 X.B X.S cnt' num') : PS w' X lab L N cnt' num' :=
  ⟨hp, h.lp, fun k hk => (h.ca k hk).chg ch (fun b hb t => by have := hT b t; have hb : lab b = 3 + k := hb; omega), h.cc⟩
theorem ps_take (h : PS w X lab L N cnt num) : Calls Try.prog 17 #[.pointer (some ⟨X.pg, 0, none⟩)] w fun e w' => (∃ b, b < X.B ∧ cnt b = 0 ∧ (∀ j, j < b → cnt j ≠ 0) ∧ e = .returned (.tuple #[.int .i64 b, .int .i64 0]) ∧ (∃ num', PS w' X lab L N (updN cnt b 1) num') ∧ Chg w w' (fun z => lab z = 2)) ∨ ((∀ j, j < X.B → cnt j ≠ 0) ∧ e = .returned (.tuple #[.int .i64 0, .int .i64 60]) ∧ w' = w) := by
  obtain ⟨q, n, T, G⟩ := geo h.pool.hL h.pool.hW h.pool.hB h.pool.hS
  refine (take_any h.pool G).mono ?_
  rintro e w' (⟨b, h1, h2, h3, h4, h5, h6⟩ | h1)
  · have c2 : Chg w w' (fun z => lab z = 2) := h6.imp (fun z _ e => by rcases e with e | e <;> rw [e]; exact h.lp.2.1; exact h.lp.2.2)
    exact .inl ⟨b, h1, h2, h3, h4, ⟨_, h.pools c2 (fun _ e => e) h5⟩, c2⟩
  · exact .inr h1
theorem ps_hold_ok (h : PS w X lab L N cnt num) {b : Nat} (hb : b < X.B) (h0 : cnt b ≠ 0) (hc : cnt b ≤ 4611686018427387904) : Calls Try.prog 65 #[.pointer (some ⟨X.pg, 0, none⟩), .int .i64 b] w fun e w' => e = .returned (.int .i64 0) ∧ PS w' X lab L N (updN cnt b (cnt b + 1)) num ∧ Chg w w' (fun z => lab z = 2) := by
  refine (hold_ok h.pool hb h0 hc).mono ?_
  rintro e w' ⟨rfl, h1, h2⟩
  have c2 : Chg w w' (fun z => lab z = 2) := h2.imp (fun z _ e => by rw [e]; exact h.lp.2.1)
  exact ⟨rfl, h.pools c2 (fun _ e => e) h1, c2⟩
theorem ps_drop_ok (h : PS w X lab L N cnt num) {b : Nat} (hb : b < X.B) (h0 : cnt b ≠ 0) (hc : cnt b ≤ 4611686018427387904) : Calls Try.prog 19 #[.pointer (some ⟨X.pg, 0, none⟩), .int .i64 b] w fun e w' => e = .returned (.int .i64 0) ∧ PS w' X lab L N (updN cnt b (cnt b - 1)) num ∧ Chg w w' (fun z => lab z = 2) := by
  refine (drop_ok h.pool hb h0 hc).mono ?_
  rintro e w' ⟨rfl, h1, h2⟩
  have c2 : Chg w w' (fun z => lab z = 2) := h2.imp (fun z _ e => by rw [e]; exact h.lp.2.1)
  exact ⟨rfl, h.pools c2 (fun _ e => e) h1, c2⟩
theorem RS.pools (h : RS w X lab L N y) {T : Nat → Prop} (ch : Chg w w' T) (hT : ∀ z, T z → lab z = 5) {cnt' : Nat → Nat} (hp : RefAt w' X.x { y with cnt := cnt' }) : RS w' X lab L N { y with cnt := cnt' } := by
  refine ⟨hp, h.lr, h.li, fun k hk => ?_, h.xx⟩
  obtain ⟨v, Ta, Tc, hr⟩ := h.rc k hk
  exact ⟨v, Ta, Tc, hr.chg ch (fun z hz t => by have := hT z t; have hz : lab z = 6 + k := hz; omega)⟩
theorem rs_hold_ok (h : RS w X lab L N y) {b : Nat} (hb : b < X.B) (h0 : y.cnt b ≠ 0) (hc : y.cnt b ≤ 4611686018427387904) : Calls Try.prog 62 #[.pointer (some ⟨X.x.g, 0, none⟩), .int .i64 b] w fun e w' => e = .returned (.int .i64 0) ∧ RS w' X lab L N { y with cnt := updN y.cnt b (y.cnt b + 1) } ∧ Chg w w' (fun z => lab z = 5) := by
  refine (rhold_ok h.ref (by rw [h.xx.1]; exact hb) h0 hc).mono ?_
  rintro e w' ⟨rfl, h1, h2⟩
  have c2 : Chg w w' (fun z => lab z = 5) := h2.imp (fun z _ e => by rw [e]; exact h.lr.2.1)
  exact ⟨rfl, h.pools c2 (fun _ e => e) h1, c2⟩
theorem rs_drop_ok (h : RS w X lab L N y) {b : Nat} (hb : b < X.B) (h0 : y.cnt b ≠ 0) (hc : y.cnt b ≤ 4611686018427387904) : Calls Try.prog 71 #[.pointer (some ⟨X.x.g, 0, none⟩), .int .i64 b] w fun e w' => e = .returned (.int .i64 0) ∧ RS w' X lab L N { y with cnt := updN y.cnt b (y.cnt b - 1) } ∧ Chg w w' (fun z => lab z = 5) := by
  refine (rdrop_ok h.ref (by rw [h.xx.1]; exact hb) h0 hc).mono ?_
  rintro e w' ⟨rfl, h1, h2⟩
  have c2 : Chg w w' (fun z => lab z = 5) := h2.imp (fun z _ e => by rw [e]; exact h.lr.2.1)
  exact ⟨rfl, h.pools c2 (fun _ e => e) h1, c2⟩
theorem rs_take_miss (h : RS w X lab L N y) (hl : ∀ j, j < X.B → y.cnt j ≠ 0) : Calls Try.prog 69 #[.pointer (some ⟨X.x.g, 0, none⟩)] w fun e w' => e = .returned (.tuple #[.int .i64 0, .int .i64 60]) ∧ w' = w :=
  rtake_miss h.ref (by rw [h.xx.1]; exact hl)
theorem rs_take_hit (h : RS w X lab L N y) (low : ∀ z, lab z ≠ 0 → z < w.heap.size) {b : Nat} (hb : b < X.B) (h0 : y.cnt b = 0) (hl : ∀ j, j < b → y.cnt j ≠ 0) : Calls Try.prog 69 #[.pointer (some ⟨X.x.g, 0, none⟩)] w fun e w' => e = .returned (.tuple #[.int .i64 b, .int .i64 0]) ∧ ∃ lab' y', RS w' X lab' L N y' ∧ y'.cnt = updN y.cnt b 1 ∧ Lab lab lab' w w' 5 ∧ Chg w w' (fun z => lab z = 5) := by
  obtain ⟨q, n, T, G⟩ := geo h.ref.hL h.ref.hW h.ref.hB h.ref.hS
  refine (rtake_hit h.ref G (by rw [h.xx.1]; exact hb) h0 hl).mono ?_
  rintro e w' ⟨rfl, ka, va, kx, vx, h1, h2, h3⟩
  obtain ⟨a1, a2, a3, a4⟩ := h.lr
  have c2 : Chg w w' (fun z => lab z = 5) := h3.imp (fun z _ e => by rcases e with e | e | e <;> rw [e] <;> assumption)
  let A' : Nat → Prop := fun z => ∃ i, i < X.x.n ∧ (z = ka i ∨ z = va i)
  have lo := h1.lows
  have hA : ∀ z, A' z → z < w'.heap.size := fun z ⟨i, hi, e⟩ => by
    rcases e with e | e
    · rw [e]; exact Nat.not_le.1 (lo.ka i hi)
    · rw [e]; exact Nat.not_le.1 (lo.va i hi)
  have hlab : Lab lab (relab lab w.heap.size A' 5) w w' 5 := ⟨fun u h0 h1 => relab_other low h0 h1, fun z hz => relab_old hz, fun z hz => relab_low low c2.size hA z hz⟩
  have hin : ∀ i, i < X.x.n → ∀ z, (z = ka i ∨ z = va i) → (lab z = 5 ∨ w.heap.size ≤ z) → relab lab w.heap.size A' 5 z = 5 := fun i hi z hz hq => by
    unfold relab
    by_cases e : w.heap.size ≤ z
    · rw [if_pos ⟨e, i, hi, hz⟩]
    · rw [if_neg (fun q => e q.1)]
      rcases hq with hq | hq
      · exact hq
      · exact absurd hq e
  refine ⟨rfl, relab lab w.heap.size A' 5, _, ⟨h1, ⟨?_, ?_, ?_, ?_⟩, fun i hi => ?_, fun k hk => ?_, h.xx⟩, rfl, hlab, c2⟩
  · rw [relab_old (low _ (by omega))]; exact a1
  · rw [relab_old (low _ (by omega))]; exact a2
  · rw [relab_old (low _ (by omega))]; exact a3
  · rw [relab_old (low _ (by omega))]; exact a4
  · obtain ⟨b1, b2⟩ := h2 i hi
    obtain ⟨l1, l2⟩ := h.li i hi
    refine ⟨hin i hi _ (.inl rfl) ?_, hin i hi _ (.inr rfl) ?_⟩
    · rcases b1 with e | e
      · exact .inl (by show lab (ka i) = 5; rw [e]; exact l1)
      · exact .inr e
    · rcases b2 with e | e
      · exact .inl (by show lab (va i) = 5; rw [e]; exact l2)
      · exact .inr e
  · obtain ⟨v, Ta, Tc, hr⟩ := h.rc k hk
    have : (fun z => relab lab w.heap.size A' 5 z = 6 + k) = (fun z => lab z = 6 + k) := funext fun z => propext (relab_other low (by omega) (by omega) z)
    rw [this]
    exact ⟨v, Ta, Tc, hr.chg c2 (fun z hz t => by have t : lab z = 5 := t; have hz : lab z = 6 + k := hz; omega)⟩
end
def MineP (X : Wx) (mine : Nat → Nat) (n : Int) (w : World) (e : Ending) (w' : World) : Prop := ∃ r : Bool, e = .returned (.bool r) ∧ (r = true ↔ ∃ b : Nat, n = b ∧ b < X.B ∧ 0 < mine b) ∧ w' = w
set_option maxRecDepth 20000 in
set_option maxHeartbeats 1600000 in
theorem mine_any {w : World} {X : Wx} {lab mine : Nat → Nat} (h : WS w X lab mine) (n : Int) : Calls Try.prog 70 #[.pointer (some ⟨X.wd, 0, none⟩), .int .i64 n] w (MineP X mine n w) := by
  obtain ⟨_, _, _, _, c6⟩ := PS.cells h
  have HM := hidd h.mn
  clear h
  by_cases h0 : n < 0
  · have hd : decide (0 ≤ n) = false := by simp; omega
    go_enter Try.func70, Try.ntmps70
    go_wp2
    go_ret
    exact ⟨false, rfl, ⟨fun e => (by cases e), fun ⟨b, e, _⟩ => by omega⟩, rfl⟩
  · have hd : decide (0 ≤ n) = true := by simp; omega
    by_cases h1 : n < X.B
    · obtain ⟨b, rfl⟩ : ∃ b : Nat, n = b := ⟨n.toNat, by omega⟩
      have hb : b < X.B := by omega
      have d := HM.out.cell (i := b) hb
      have hd1 : decide ((b : Int) < (X.B : Int)) = true := by simp; omega
      have i1 : (b : Int) < (X.B : Int) := by omega
      obtain ⟨q, HQ⟩ : ∃ q, Hid (q = mine b) := ⟨_, rfl⟩
      rw [← HQ.out] at d
      by_cases hq : 0 < q
      · have hd2 : decide ((0 : Int) < (q : Int)) = true := by simp; omega
        go_enter Try.func70, Try.ntmps70
        go_wp2
        go_ret
        exact ⟨true, rfl, ⟨fun _ => ⟨b, rfl, hb, by rw [← HQ.out]; exact hq⟩, fun _ => rfl⟩, rfl⟩
      · have hd2 : decide ((0 : Int) < (q : Int)) = false := by simp; omega
        go_enter Try.func70, Try.ntmps70
        go_wp2
        go_ret
        exact ⟨false, rfl, ⟨fun e => (by cases e), fun ⟨b', e, _, e2⟩ => by
          have : b = b' := by omega
          subst this
          rw [← HQ.out] at e2
          exact absurd e2 hq⟩, rfl⟩
    · have hd1 : decide (n < (X.B : Int)) = false := by simp; omega
      go_enter Try.func70, Try.ntmps70
      go_wp2
      go_ret
      exact ⟨false, rfl, ⟨fun e => (by cases e), fun ⟨b, e, _⟩ => by omega⟩, rfl⟩
set_option maxRecDepth 20000 in
set_option maxHeartbeats 1600000 in
theorem counts_any {w : World} {X : Wx} {lab mine : Nat → Nat} {L : Nat → List Nd} {N : Nat → Nat} {L2 : Nat → List Nd} {N2 : Nat → Nat} {num : Nat → Int} {y : Ry} (h : WS w X lab mine) (hp : PS w X lab L N y.cnt num) (hr : RS w X lab L2 N2 y) : Calls Try.prog 33 #[.pointer (some ⟨X.wd, 0, none⟩)] w fun e w' => e = .returned (.bool true) ∧ Below w.heap.size w w' := by
  obtain ⟨c0, _, c3, _, c6⟩ := PS.cells h
  have hB := hp.pool.hB
  have HH := hidd (And.intro hp hr)
  clear h hp hr
  go_enter Try.func33, Try.ntmps33
  go_wp2
  go_loopw [3] (fun i wr => ∃ k : Nat, k ≤ X.B ∧ i = .int .i64 k ∧ Below w.heap.size w wr) (fun i _ => X.B - (intOf i).toNat)
  case atStart => exact ⟨0, by omega, rfl, Below.refl _ _⟩
  case round =>
    obtain ⟨k, hk, rfl, hf⟩ := hrel
    have d0 := fresh_cell hf c0
    have d3 := fresh_cell hf c3
    have d6 := fresh_cell hf c6
    have l0 := later_cell d0
    have l3 := later_cell d3
    have ne := later_some wr
    by_cases hlt : k < X.B
    · obtain ⟨q, HQ⟩ : ∃ q, Hid (q = cntI y.cnt X.B (k : Int)) := ⟨_, rfl⟩
      have HC1 : Hid (∀ z : Later wr, Calls Try.prog 23 #[.pointer (some ⟨X.pg, 0, none⟩), .int .i64 (k : Int)] z.val fun e w' => e = .returned (.int .i64 (q : Nat)) ∧ w' = z.val) := fun z => by
        have := count_any (HH.out.1.pool.fresh (hf.trans (z.fresh.mono hf.size))) (k : Int)
        rw [← HQ.out] at this
        exact this
      have HC2 : Hid (∀ z : Later wr, Calls Try.prog 58 #[.pointer (some ⟨X.x.g, 0, none⟩), .int .i64 (k : Int)] z.val fun e w' => e = .returned (.int .i64 (q : Nat)) ∧ w' = z.val) := fun z => by
        have := rcount_any (HH.out.2.ref.fresh (hf.trans (z.fresh.mono hf.size))) (k : Int)
        rw [HH.out.2.xx.1, ← HQ.out] at this
        exact this
      go_wp2
      refine wp_region_later (by kernel_rfl) (by kernel_rfl) ?_
      repeat (go_big_quiet_step (fail))
      go_big_quiet_step (exact later_same (HC1.out _))
      repeat (go_big_quiet_step (fail))
      go_big_quiet_step (exact later_same (HC2.out _))
      repeat (go_big_quiet_step (fail))
      refine wpQuiet_nil ?_
      rintro _ ⟨z, rfl⟩
      have hz := z.fresh
      go_wp2
      go_roundw
      case rel => exact ⟨k + 1, by omega, by go_num, fresh_trans hf hz⟩
      case measure => simp [intOf]; omega
    · obtain rfl : X.B = k := by omega
      obtain ⟨q, HQ⟩ : ∃ q, Hid (q = freeN y.cnt X.B) := ⟨_, rfl⟩
      have HC1 : Hid (∀ z : Later wr, Calls Try.prog 24 #[.pointer (some ⟨X.pg, 0, none⟩)] z.val fun e w' => e = .returned (.int .i64 (q : Nat)) ∧ w' = z.val) := fun z => by
        have := left_any (HH.out.1.pool.fresh (hf.trans (z.fresh.mono hf.size)))
        rw [← HQ.out] at this
        exact this
      have HC2 : Hid (∀ z : Later wr, Calls Try.prog 63 #[.pointer (some ⟨X.x.g, 0, none⟩)] z.val fun e w' => e = .returned (.int .i64 (q : Nat)) ∧ w' = z.val) := fun z => by
        have := rleft_any (HH.out.2.ref.fresh (hf.trans (z.fresh.mono hf.size)))
        rw [HH.out.2.xx.1, ← HQ.out] at this
        exact this
      go_wp2
      refine wp_region_later (by kernel_rfl) (by kernel_rfl) ?_
      repeat (go_big_quiet_step (fail))
      go_big_quiet_step (exact later_same (HC1.out _))
      repeat (go_big_quiet_step (fail))
      go_big_quiet_step (exact later_same (HC2.out _))
      repeat (go_big_quiet_step (fail))
      refine wpQuiet_nil ?_
      rintro _ ⟨z, rfl⟩
      have hz := z.fresh
      go_wp2
      go_ret
      exact ⟨rfl, fresh_trans hf hz⟩
end Go.Proofs.Ytaalinlggjimcaa
namespace Go.Proofs.Ytaalinlggjimcaa
open Go.RowKit
/-! The whole state, and what each call does to the counts. -/
def hs (L : List Nd) (b : Nat) : Nat := if L.any (fun x => decide (x.blk = b)) then 1 else 0
theorem hs_yes {L : List Nd} {b : Nat} {x : Nd} (hx : x ∈ L) (e : x.blk = b) : hs L b = 1 := by
  unfold hs
  rw [if_pos (List.any_eq_true.2 ⟨x, hx, decide_eq_true e⟩)]
theorem hs_no {L : List Nd} {b : Nat} (h : ∀ x ∈ L, x.blk ≠ b) : hs L b = 0 := by
  unfold hs
  rw [if_neg (fun q => by
    obtain ⟨x, hx, e⟩ := List.any_eq_true.1 q
    exact h x hx (of_decide_eq_true e))]
theorem hs_le (L : List Nd) (b : Nat) : hs L b ≤ 1 := by unfold hs; split <;> omega
theorem hs_cases (L : List Nd) (b : Nat) : (∃ x ∈ L, x.blk = b) ∨ ∀ x ∈ L, x.blk ≠ b := by
  by_cases h : ∃ x ∈ L, x.blk = b
  · exact .inl h
  · exact .inr (fun x hx e => h ⟨x, hx, e⟩)
theorem hs_same {L : List Nd} {f : Nd → Nd} (hf : Same f) (b : Nat) : hs (L.map f) b = hs L b := by
  rcases hs_cases L b with ⟨x, hx, e⟩ | h
  · rw [hs_yes hx e, hs_yes (List.mem_map.2 ⟨x, hx, rfl⟩) (by rw [hf.blk]; exact e)]
  · rw [hs_no h, hs_no (fun x hx => by
      obtain ⟨z, hz, rfl⟩ := List.mem_map.1 hx
      rw [hf.blk]; exact h z hz)]
theorem hs_use (L : List Nd) (p : List (List Int)) (n b : Nat) : hs (useL L p n) b = hs L b := hs_same (mkF_same _ _ _) b
theorem addC_in (cnt : Nat → Nat) (g : Nat → Nat) (q b : Nat) : ∀ j, (∀ i i', i < i' → i' < j → g (q + i) ≠ g (q + i')) → (∃ i, i < j ∧ g (q + i) = b) → addC cnt g q j b = cnt b + 1
  | 0, _, ⟨i, hi, _⟩ => absurd hi (by omega)
  | j + 1, hinj, ⟨i, hi, e⟩ => by
    unfold addC updN
    by_cases e2 : b = g (q + j)
    · rw [if_pos e2, ← e2]
      have : addC cnt g q j b = cnt b := addC_off cnt g q j (fun i hi e3 => hinj i j hi (by omega) (e3.trans e2))
      rw [this]
    · rw [if_neg e2]
      have : i ≠ j := fun e3 => e2 (by rw [← e, e3])
      exact addC_in cnt g q b j (fun i i' h1 h2 => hinj i i' h1 (by omega)) ⟨i, by omega, e⟩
theorem ext_bal {L L' news : List Nd} {P : List (List Int)} {g : Nat → Nat} {q j : Nat} (he : Ext L P g q j L' news) (hno : Nobodys L (fun i => g (q + i)) j) (cnt : Nat → Nat) (b : Nat) : addC cnt g q j b + hs L b = cnt b + hs L' b := by
  by_cases h : ∃ i, i < j ∧ g (q + i) = b
  · obtain ⟨i, hi, e⟩ := h
    rw [addC_in cnt g q b j (fun a a' h1 h2 => hno.2 a a' h1 h2) ⟨i, hi, e⟩]
    obtain ⟨y, ey, _, e2, _⟩ := he.at_ i hi
    have hy : y ∈ L' := by rw [he.eq]; exact List.mem_append.2 (.inr (List.mem_of_getElem? ey))
    rw [hs_yes hy (e2.trans e), hs_no (fun x hx e3 => hno.1 i hi x hx (e3.trans e.symm))]
  · rw [addC_off cnt g q j (fun i hi e => h ⟨i, hi, e⟩)]
    rcases hs_cases L b with ⟨x, hx, e⟩ | h2
    · rw [hs_yes hx e, hs_yes (L := L') (by rw [he.eq]; exact List.mem_append.2 (.inl hx)) e]
    · rw [hs_no h2, hs_no (fun x hx e => by
        rcases he.mem hx with h3 | ⟨i, hi, _, e2⟩
        · exact h2 x h3 e
        · exact h ⟨i, hi, e2.symm.trans e⟩)]
theorem shr_bal {B : Nat} {L : List Nd} {cnt : Nat → Nat} {c : Ca} {N : Nat} (hw : Well c L N) {j : Nat} {L' : List Nd} {cnt' : Nat → Nat} (h : Shr B L cnt j L' cnt') (b : Nat) : cnt' b + hs L b = cnt b + hs L' b := by
  induction h with
  | nil => rfl
  | @step j L1 c1 x h1 hx hl ih =>
    obtain ⟨hm, _, _⟩ := least_get hw h1.sub hx hl
    by_cases e : b = x.blk
    · subst e
      have e0 : updN c1 x.blk 0 x.blk = 0 := by unfold updN; rw [if_pos rfl]
      rw [e0]
      rw [hm.2, hs_yes hx rfl] at ih
      rw [hs_no (L := delL L1 x) (fun y hy e => (mem_del.1 hy).2 (hw.dblk y (h1.sub y (mem_del.1 hy).1) x (h1.sub x hx) e))]
      omega
    · have e0 : updN c1 x.blk 0 b = c1 b := by unfold updN; rw [if_neg e]
      rw [e0]
      have : hs (delL L1 x) b = hs L1 b := by
        rcases hs_cases L1 b with ⟨y, hy, ey⟩ | h2
        · rw [hs_yes hy ey, hs_yes (L := delL L1 x) (mem_del.2 ⟨hy, fun q => e (by rw [← ey, q])⟩) ey]
        · rw [hs_no h2, hs_no (fun y hy => h2 y (mem_del.1 hy).1)]
      rw [this]
      exact ih
structure Inv (X : Wx) (L : Nat → List Nd) (N : Nat → Nat) (cnt mine : Nat → Nat) (bd : Nat) : Prop where
  cut : ∀ k, k < 2 → Cut X.S (L k)
  tie : ∀ k, k < 2 → Tie (L k)
  cts : ∀ b, cnt b = mine b + hs (L 0) b + hs (L 1) b
  bN : ∀ k, k < 2 → N k ≤ bd
  bM : ∀ b, mine b ≤ bd
  zz : ∀ k, k < 2 → ¬ X.Z k → L k = []
structure St (w : World) (X : Wx) (lab : Nat → Nat) (L : Nat → List Nd) (N : Nat → Nat) (num : Nat → Int) (y : Ry) (mine : Nat → Nat) (bd : Nat) : Prop where
  ps : PS w X lab L N y.cnt num
  rs : RS w X lab L N y
  ws : WS w X lab mine
  inv : Inv X L N y.cnt mine bd
theorem Inv.cnt {X : Wx} {L : Nat → List Nd} {N : Nat → Nat} {cnt mine : Nat → Nat} {bd : Nat} (h : Inv X L N cnt mine bd) (b : Nat) : cnt b ≤ bd + 2 := by
  have := h.cts b
  have := h.bM b
  have := hs_le (L 0) b
  have := hs_le (L 1) b
  omega
theorem setF_two {α : Type} {f : Nat → α} {k : Nat} {v : α} (_hk : k < 2) {p : α → Prop} (h : ∀ j, j < 2 → p (f j)) (hv : p v) : ∀ j, j < 2 → p (setF f k v j) := fun j hj => by
  by_cases e : j = k
  · rw [e, setF_at]; exact hv
  · rw [setF_ne _ _ e]; exact h j hj
theorem Inv.step {X : Wx} {L : Nat → List Nd} {N : Nat → Nat} {cnt mine : Nat → Nat} {bd : Nat} (h : Inv X L N cnt mine bd) {k : Nat} (hk : k < 2) (hZ : X.Z k) {L' : List Nd} {n' : Nat} {cnt' : Nat → Nat} (hc : Cut X.S L') (ht : Tie L') (hn : n' ≤ bd + 1) (hb : ∀ b, cnt' b + hs (L k) b = cnt b + hs L' b) : Inv X (setF L k L') (setF N k n') cnt' mine (bd + 1) := by
  refine ⟨setF_two hk h.cut hc, setF_two hk h.tie ht, fun b => ?_, setF_two (p := fun n => n ≤ bd + 1) hk (fun j hj => by have := h.bN j hj; omega) hn, fun b => by have := h.bM b; omega, fun j hj hn => ?_⟩
  · have h1 := hb b
    have h2 := h.cts b
    have hk2 : k = 0 ∨ k = 1 := by omega
    rcases hk2 with rfl | rfl
    · rw [setF_at, setF_ne _ _ (by omega)]; omega
    · rw [setF_at, setF_ne _ _ (by omega)]; omega
  · by_cases e : j = k
    · subst e; exact absurd hZ hn
    · rw [setF_ne _ _ e]; exact h.zz j hj hn
theorem Inv.more {X : Wx} {L : Nat → List Nd} {N : Nat → Nat} {cnt mine : Nat → Nat} {bd : Nat} (h : Inv X L N cnt mine bd) : Inv X L N cnt mine (bd + 1) :=
  ⟨h.cut, h.tie, h.cts, fun k hk => by have := h.bN k hk; omega, fun b => by have := h.bM b; omega, h.zz⟩
/-- block b is held once more by the script, or once less -/
theorem Inv.hold {X : Wx} {L : Nat → List Nd} {N : Nat → Nat} {cnt mine : Nat → Nat} {bd : Nat} (h : Inv X L N cnt mine bd) (b : Nat) {m c : Nat} (hm : m ≤ bd + 1) (hc : c + mine b = cnt b + m) : Inv X L N (updN cnt b c) (updN mine b m) (bd + 1) := by
  refine ⟨h.cut, h.tie, fun z => ?_, fun k hk => by have := h.bN k hk; omega, fun z => ?_, h.zz⟩
  · have := h.cts z
    unfold updN
    split
    · rename_i e; subst e; omega
    · exact this
  · have := h.bM z
    unfold updN
    split <;> omega
end Go.Proofs.Ytaalinlggjimcaa
