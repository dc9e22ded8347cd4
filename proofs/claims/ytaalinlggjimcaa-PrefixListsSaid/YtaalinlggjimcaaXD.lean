import Derived.Test.YtaalinlggjimcaaXC
namespace Go.Proofs.Ytaalinlggjimcaa
open Go.RowKit
/-! The cache in memory. -/
/-- a known beginning: its pieces, its block, when it was used, where it lies -/
structure Nd where
  path : List (List Int)
  blk : Nat
  used : Nat
  at_ : Nat
deriving DecidableEq
def Nd.ptr (x : Nd) : Value := .pointer (some ⟨x.at_, 0, none⟩)
def lastP (p : List (List Int)) : List Int := p.getLastD []
def Nd.key (x : Nd) : Value := keyV x.path.length (lastP x.path)
/-- what does not change -/
structure Ca where
  C : Nat
  O : Nat
  M : Nat
  pg : Nat
  S : Nat
  B : Nat
def AdrOf (C : Nat) (L : List Nd) (p : List (List Int)) (b o : Nat) : Prop := (p = [] ∧ b = C ∧ o = 2) ∨ ∃ x ∈ L, x.path = p ∧ b = x.at_ ∧ o = 0
/-- how many are one piece longer -/
def lg (L : List Nd) (p : List (List Int)) : Nat := (L.filter (fun x => decide (x.path.dropLast = p))).length
def cacheF (pg S g0 M O B N : Nat) : Nat → Value := fun i =>
  if i = 0 then .pointer (some ⟨pg, 0, none⟩) else if i = 1 then .int .i64 S else if i = 19 then nilP else if i = 20 then .int .i64 g0 else if i = 23 then .map (some M) else if i = 24 then .slice (some ⟨O, 0, none⟩) B B else if i = 25 then .int .i64 N else .int .i64 0
def nodeF (n : Nat) (p : List Int) (sh : Value) (g bk us : Nat) : Nat → Value := fun i =>
  if i = 0 then .int .i64 n else if i = 17 then sh else if i = 18 then .int .i64 g else if i = 19 then .int .i64 bk else if i = 20 then .int .i64 us else .int .i64 (p.getD (i - 1) 0)
def ownF (L : List Nd) : Nat → Value := fun i => match L.find? (fun x => x.blk == i) with
  | some x => x.ptr
  | none => nilP
open Classical in
noncomputable def grpL (L : List Nd) (k : Value) : List Value := (L.filter (fun x => decide (x.key = k))).map Nd.ptr
def NodeAt (w : World) (C : Nat) (L : List Nd) (x : Nd) : Prop := ∃ b o, AdrOf C L x.path.dropLast b o ∧ w.rowIs x.at_ 78 21 (nodeF x.path.length (lastP x.path) (.pointer (some ⟨b, o, none⟩)) (lg L x.path) x.blk x.used)
/-- what holds of the list of known ones by itself -/
structure Well (c : Ca) (L : List Nd) (N : Nat) : Prop where
  ne : ∀ x ∈ L, x.path ≠ []
  pcs : ∀ x ∈ L, ∀ p ∈ x.path, Pc p
  blk : ∀ x ∈ L, x.blk < c.B
  plen : ∀ x ∈ L, x.path.length ≤ c.B
  dblk : ∀ x ∈ L, ∀ y ∈ L, x.blk = y.blk → x = y
  dat : ∀ x ∈ L, ∀ y ∈ L, x.at_ = y.at_ → x = y
  dpath : ∀ x ∈ L, ∀ y ∈ L, x.path = y.path → x = y
  nodup : L.Nodup
  used : ∀ x ∈ L, x.used ≤ N
  up : ∀ x ∈ L, x.path.dropLast = [] ∨ ∃ y ∈ L, y.path = x.path.dropLast
  hS : 1 ≤ c.S ∧ c.S ≤ 16
  hB : 1 ≤ c.B ∧ c.B ≤ 256
structure CacheAt (w : World) (c : Ca) (A : Nat → Prop) (L : List Nd) (N : Nat) : Prop where
  row : w.rowIs c.C 80 26 (cacheF c.pg c.S (lg L []) c.M c.O c.B N)
  own : w.rowIs c.O 76 c.B (ownF L)
  map : Groups w c.M c.O A (grpL L)
  node : ∀ x ∈ L, NodeAt w c.C L x
  well : Well c L N
  aC : A c.C
  aO : A c.O
  aM : A c.M
  aN : ∀ x ∈ L, A x.at_
  low : ∀ b, A b → b < w.heap.size
theorem map_nodup {α β : Type} (f : α → β) : ∀ (l : List α), l.Nodup → (∀ x ∈ l, ∀ y ∈ l, f x = f y → x = y) → (l.map f).Nodup
  | [], _, _ => by simp
  | x :: r, h, hi => by
    obtain ⟨h1, h2⟩ := List.nodup_cons.1 h
    refine List.nodup_cons.2 ⟨fun hm => ?_, map_nodup f r h2 (fun a ha b hb => hi a (by simp [ha]) b (by simp [hb]))⟩
    obtain ⟨y, hy, e⟩ := List.mem_map.1 hm
    have := hi y (by simp [hy]) x (by simp) e
    subst this
    exact h1 hy
theorem Well.len {c : Ca} {L : List Nd} {N : Nat} (h : Well c L N) : L.length ≤ c.B := by
  have h1 : (L.map (·.blk)).Nodup := map_nodup _ _ h.nodup h.dblk
  have := nodup_len (L.map (·.blk)) (List.range c.B) h1 (fun b hb => by
    obtain ⟨x, hx, rfl⟩ := List.mem_map.1 hb
    exact List.mem_range.2 (h.blk x hx))
  simpa using this
theorem lg_le (L : List Nd) (p : List (List Int)) : lg L p ≤ L.length := List.length_filter_le _ _
theorem Well.few {c : Ca} {L : List Nd} {N : Nat} (h : Well c L N) : Few (grpL L) := by
  refine ⟨L.map Nd.key, by have := h.len; have := h.hB; simp; omega, fun k hk => ?_⟩
  unfold grpL at hk
  by_cases e : ∃ x ∈ L, x.key = k
  · obtain ⟨x, hx, rfl⟩ := e
    exact List.mem_map.2 ⟨x, hx, rfl⟩
  · refine absurd ?_ hk
    rw [List.filter_eq_nil_iff.2 (fun x hx => by simpa using fun e1 => e ⟨x, hx, e1⟩)]
    rfl
theorem Well.last {c : Ca} {L : List Nd} {N : Nat} (h : Well c L N) {x : Nd} (hx : x ∈ L) : Pc (lastP x.path) := by
  refine h.pcs x hx _ ?_
  unfold lastP
  have := h.ne x hx
  rw [List.getLastD_eq_getLast?, List.getLast?_eq_some_getLast this]
  exact List.getLast_mem this
theorem Well.keyOk {c : Ca} {L : List Nd} {N : Nat} (h : Well c L N) {x : Nd} (hx : x ∈ L) : ∃ l, keyOf Try.prog 75 x.key = some l :=
  key_ok (by have := h.plen x hx; have := h.hB; unfold fits; omega) (h.last hx)
/-- blocks of unlike types are unlike -/
theorem type_apart {w : World} {a b : Nat} {s t : TypeId} {n m : Nat} {f g : Nat → Value} (h : w.rowIs a s n f) (k : w.rowIs b t m g) (hst : s ≠ t) : a ≠ b := by
  intro e
  subst e
  obtain ⟨x, hx, _⟩ := h
  obtain ⟨y, hy, _⟩ := k
  rw [hx] at hy
  cases hy
  exact hst rfl
theorem CacheAt.cells {w : World} {c : Ca} {A : Nat → Prop} {L : List Nd} {N : Nat} (h : CacheAt w c A L N) :
    w.cell? ⟨c.C, 0, none⟩ = some (.pointer (some ⟨c.pg, 0, none⟩)) ∧ w.cell? ⟨c.C, 1, none⟩ = some (.int .i64 c.S) ∧ w.cell? ⟨c.C, 2, none⟩ = some (.int .i64 0) ∧ w.cell? ⟨c.C, 20, none⟩ = some (.int .i64 (lg L [])) ∧ w.cell? ⟨c.C, 23, none⟩ = some (.map (some c.M)) ∧ w.cell? ⟨c.C, 24, none⟩ = some (.slice (some ⟨c.O, 0, none⟩) c.B c.B) ∧ w.cell? ⟨c.C, 25, none⟩ = some (.int .i64 N) :=
  ⟨h.row.cell (i := 0) (by decide), h.row.cell (i := 1) (by decide), h.row.cell (i := 2) (by decide), h.row.cell (i := 20) (by decide), h.row.cell (i := 23) (by decide), h.row.cell (i := 24) (by decide), h.row.cell (i := 25) (by decide)⟩
/-- a beginning's cells, wherever it lies -/
theorem CacheAt.adr {w : World} {c : Ca} {A : Nat → Prop} {L : List Nd} {N : Nat} (h : CacheAt w c A L N) {p : List (List Int)} {b o : Nat} (ha : AdrOf c.C L p b o) :
    w.cell? ⟨b, o, none⟩ = some (.int .i64 p.length) ∧ w.cell? ⟨b, o + 18, none⟩ = some (.int .i64 (lg L p)) ∧ ∀ j, w.frozen? ⟨b, j, none⟩ = false := by
  rcases ha with ⟨rfl, rfl, rfl⟩ | ⟨x, hx, rfl, rfl, rfl⟩
  · exact ⟨h.row.cell (i := 2) (by decide), h.row.cell (i := 20) (by decide), h.row.frozen⟩
  · obtain ⟨b, o, _, hr⟩ := h.node x hx
    exact ⟨hr.cell (i := 0) (by decide), hr.cell (i := 18) (by decide), hr.frozen⟩
/-- a node's cells -/
theorem CacheAt.nd {w : World} {c : Ca} {A : Nat → Prop} {L : List Nd} {N : Nat} (h : CacheAt w c A L N) {x : Nd} (hx : x ∈ L) : ∃ b o, AdrOf c.C L x.path.dropLast b o ∧
    w.cell? ⟨x.at_, 0, none⟩ = some (.int .i64 x.path.length) ∧ w.cell? ⟨x.at_, 17, none⟩ = some (.pointer (some ⟨b, o, none⟩)) ∧ w.cell? ⟨x.at_, 18, none⟩ = some (.int .i64 (lg L x.path)) ∧ w.cell? ⟨x.at_, 19, none⟩ = some (.int .i64 x.blk) ∧ w.cell? ⟨x.at_, 20, none⟩ = some (.int .i64 x.used) ∧
    w.rangeAt x.at_ 1 (ints (lastP x.path)) ∧ w.rangeAt x.at_ 0 (keyL x.path.length (lastP x.path)) ∧ ∀ j, w.frozen? ⟨x.at_, j, none⟩ = false := by
  obtain ⟨b, o, ha, hr⟩ := h.node x hx
  have hl := (h.well.last hx).1
  have key : ∀ i, i < 16 → w.cell? ⟨x.at_, 1 + i, none⟩ = some (.int .i64 ((lastP x.path).getD i 0)) := fun i hi => by
    have := hr.cell (i := 1 + i) (by omega)
    rw [this]
    unfold nodeF
    rw [if_neg (by omega), if_neg (by omega), if_neg (by omega), if_neg (by omega), if_neg (by omega), show 1 + i - 1 = i by omega]
  refine ⟨b, o, ha, hr.cell (i := 0) (by decide), hr.cell (i := 17) (by decide), hr.cell (i := 18) (by decide), hr.cell (i := 19) (by decide), hr.cell (i := 20) (by decide), ?_, ?_, hr.frozen⟩
  · intro j v hj
    have hjl : j < 16 := by have := (List.getElem?_eq_some_iff.1 hj).1; rw [ints_len, hl] at this; exact this
    rw [key j hjl]
    unfold ints at hj
    rw [List.getElem?_map] at hj
    rw [List.getD_eq_getElem?_getD]
    cases hq : (lastP x.path)[j]? with
    | none => rw [hq] at hj; cases hj
    | some y => rw [hq] at hj; simpa using hj
  · intro j v hj
    cases j with
    | zero =>
      simp [keyL] at hj
      subst hj
      exact hr.cell (i := 0) (by decide)
    | succ j =>
      simp only [keyL, List.getElem?_cons_succ] at hj
      have hjl : j < 16 := by have := (List.getElem?_eq_some_iff.1 hj).1; rw [ints_len, hl] at this; exact this
      rw [show 0 + (j + 1) = 1 + j by omega, key j hjl]
      unfold ints at hj
      rw [List.getElem?_map] at hj
      rw [List.getD_eq_getElem?_getD]
      cases hq : (lastP x.path)[j]? with
      | none => rw [hq] at hj; cases hj
      | some y => rw [hq] at hj; simpa using hj
/-- what the program writes elsewhere -/
theorem CacheAt.chg {w w' : World} {c : Ca} {A : Nat → Prop} {L : List Nd} {N : Nat} (h : CacheAt w c A L N) {T : Nat → Prop} (k : Chg w w' T) (hT : ∀ b, A b → ¬ T b) : CacheAt w' c A L N :=
  ⟨k.row h.row (hT _ h.aC), k.row h.own (hT _ h.aO), h.map.chg k (hT _ h.aM) (fun b hb _ _ => hT b hb), fun x hx => by
    obtain ⟨b, o, h1, h2⟩ := h.node x hx
    exact ⟨b, o, h1, k.row h2 (hT _ (h.aN x hx))⟩, h.well, h.aC, h.aO, h.aM, h.aN, fun b hb => Nat.lt_of_lt_of_le (h.low b hb) k.size⟩
theorem CacheAt.fresh {w w' : World} {c : Ca} {A : Nat → Prop} {L : List Nd} {N : Nat} (h : CacheAt w c A L N) (f : Below w.heap.size w w') : CacheAt w' c A L N := h.chg (Chg.of_below (fun _ => False) f) (fun _ _ t => t)
/-- pieces held against each other -/
theorem plaw : WideMaps.KeyLaw Try.prog 73 := deep_law_gate (P := Try.prog) (by kernel_rfl) (by rw [tsize]; decide) (by rw [tsize]; decide) (by kernel_rfl) (by kernel_rfl)
def pieceV (p : List Int) : Value := .agg (ints p).toArray
theorem pieceV_inj {p q : List Int} (h : pieceV p = pieceV q) : p = q := by
  unfold pieceV at h
  exact ints_inj (congrArg Array.toList (Value.agg.inj h))
theorem piece_ok {p : List Int} (hp : Pc p) : ∃ l, keyOf Try.prog 73 (pieceV p) = some l := by
  have c2 : Try.prog.cellsOf 73 = 16 := by kernel_rfl
  have k1 : Try.prog.keyType 73 = true := by kernel_rfl
  obtain ⟨l, hl⟩ := lits_piece 135 hp
  refine ⟨.string (keyBytes l), ?_⟩
  unfold keyOf
  rw [Try.underlying73]
  have hf : (pieceV p).formed Try.prog 73 = true := by
    unfold pieceV Value.formed
    rw [Try.underlying73]
    simp [c2, ints_len, hp.1]
  have hc : (pieceV p).cells.toList = ints p := by simp [pieceV, Value.cells]
  simp only [k1, hf, tsize, hc, hl]
  rfl
theorem piece_neq {p q : List Int} (hp : Pc p) (hq : Pc q) (w : World) : (binOp .neq 73 (pieceV p) (pieceV q)).run Try.prog w = .ok (.bool (!decide (p = q))) w := by
  obtain ⟨l, hl⟩ := piece_ok hp
  obtain ⟨m, hm⟩ := piece_ok hq
  obtain ⟨r, h1, h2⟩ := run_equal_deep (P := Try.prog) w (m := 100) (by decide) (k := 73) (by kernel_rfl) (by kernel_rfl) hl hm
  have hr : r = decide (p = q) := by
    by_cases e : p = q
    · subst e
      rw [hl] at hm
      cases hm
      simp [h2]
    · simp only [e, decide_false]
      cases hr : r with
      | false => rfl
      | true =>
        have := h2.1 hr
        subst this
        exact absurd (pieceV_inj (plaw.inj hl hm)) e
  have e : binOp .neq 73 (pieceV p) (pieceV q) = (fun a => Value.bool !a) <$> Op.equal 73 (pieceV p) (pieceV q) := rfl
  rw [e]
  simp [h1, hr]
end Go.Proofs.Ytaalinlggjimcaa
