import Derived.Test.YtaalinlggjimcaaXO
namespace Go.Proofs.Ytaalinlggjimcaa
open Go.RowKit
/-! One that is known no more: what it makes of the lists, and of memory. -/
def delL (L : List Nd) (x : Nd) : List Nd := L.filter (fun y => decide (y ≠ x))
theorem mem_del {L : List Nd} {x y : Nd} : y ∈ delL L x ↔ y ∈ L ∧ y ≠ x := by unfold delL; simp
theorem count_del (p : Nd → Bool) {x : Nd} : ∀ (L : List Nd), L.Nodup → x ∈ L → ((delL L x).filter p).length + (if p x then 1 else 0) = (L.filter p).length
  | [], _, h => by cases h
  | y :: r, hn, h => by
    obtain ⟨h1, h2⟩ := List.nodup_cons.1 hn
    unfold delL
    by_cases e : y = x
    · subst e
      have e1 : r.filter (fun z => decide (z ≠ y)) = r := List.filter_eq_self.2 (fun z hz => decide_eq_true (fun (e : z = y) => h1 (e ▸ hz)))
      rw [List.filter_cons_of_neg (by simp), e1]
      by_cases hp : p y = true
      · rw [List.filter_cons_of_pos hp, if_pos hp]; rfl
      · rw [List.filter_cons_of_neg hp, if_neg hp]; rfl
    · have hx : x ∈ r := by
        rcases List.mem_cons.1 h with e2 | h
        · exact absurd e2.symm e
        · exact h
      have ih := count_del p r h2 hx
      unfold delL at ih
      rw [List.filter_cons_of_pos (by simpa using e)]
      by_cases hp : p y = true
      · rw [List.filter_cons_of_pos hp, List.filter_cons_of_pos hp, List.length_cons, List.length_cons]; omega
      · rw [List.filter_cons_of_neg hp, List.filter_cons_of_neg hp]; exact ih
theorem lg_del {c : Ca} {L : List Nd} {N : Nat} (hw : Well c L N) {x : Nd} (hx : x ∈ L) (q : List (List Int)) : lg (delL L x) q + (if x.path.dropLast = q then 1 else 0) = lg L q := by
  have := count_del (fun y => decide (y.path.dropLast = q)) L hw.nodup hx
  unfold lg
  simpa using this
theorem ownF_del {c : Ca} {L : List Nd} {N : Nat} (hw : Well c L N) {x : Nd} (hx : x ∈ L) (i : Nat) : ownF (delL L x) i = if i = x.blk then nilP else ownF L i := by
  by_cases e : i = x.blk
  · rw [if_pos e]
    rcases ownF_cases (delL L x) i with ⟨y, hy, hb, _⟩ | ⟨_, h⟩
    · obtain ⟨h1, h2⟩ := mem_del.1 hy
      exact absurd (hw.dblk y h1 x hx (by omega)) h2
    · exact h
  · rw [if_neg e]
    rcases ownF_cases (delL L x) i with ⟨y, hy, hb, h1⟩ | ⟨hno, h1⟩
    · rcases ownF_cases L i with ⟨z, hz, hc, h2⟩ | ⟨hno, h2⟩
      · rw [h1, h2, hw.dblk y (mem_del.1 hy).1 z hz (by omega)]
      · exact absurd hb (hno y (mem_del.1 hy).1)
    · rcases ownF_cases L i with ⟨z, hz, hc, h2⟩ | ⟨_, h2⟩
      · exact absurd hc (hno z (mem_del.2 ⟨hz, fun e2 => e (by rw [← hc, e2])⟩))
      · rw [h1, h2]
open Classical in
/-- those with a key -/
noncomputable def withK (L : List Nd) (k : Value) : List Nd := L.filter (fun x => decide (x.key = k))
theorem grpL_with (L : List Nd) (k : Value) : grpL L k = (withK L k).map Nd.ptr := rfl
open Classical in
theorem grpL_del (L : List Nd) (x : Nd) (k : Value) : grpL (delL L x) k = updG (grpL L) x.key (((withK L x.key).filter (fun y => decide (y ≠ x))).map Nd.ptr) k := by
  unfold updG grpL delL withK
  by_cases e : k = x.key
  · subst e
    rw [if_pos rfl, List.filter_filter, List.filter_filter]
    congr 1
    refine List.filter_congr (fun y _ => ?_)
    rw [Bool.and_comm]
  · rw [if_neg e, List.filter_filter]
    congr 1
    refine List.filter_congr (fun y _ => ?_)
    by_cases h : y.key = k
    · have : y ≠ x := fun e2 => e (by rw [← h, e2])
      simp [h, this]
    · simp [h]
theorem no_longer {L : List Nd} {x : Nd} (h : lg L x.path = 0) : ∀ y ∈ L, y.path.dropLast ≠ x.path := fun y hy e => by
  unfold lg at h
  rw [List.length_eq_zero_iff, List.filter_eq_nil_iff] at h
  exact absurd (by simpa using e) (h y hy)
theorem Well.del {c : Ca} {L : List Nd} {N : Nat} (hw : Well c L N) {x : Nd} (h0 : lg L x.path = 0) : Well c (delL L x) N := by
  have sub : ∀ y ∈ delL L x, y ∈ L := fun y hy => (mem_del.1 hy).1
  refine ⟨fun y hy => hw.ne y (sub y hy), fun y hy => hw.pcs y (sub y hy), fun y hy => hw.blk y (sub y hy), fun y hy => hw.plen y (sub y hy), fun y hy z hz => hw.dblk y (sub y hy) z (sub z hz), fun y hy z hz => hw.dat y (sub y hy) z (sub z hz), fun y hy z hz => hw.dpath y (sub y hy) z (sub z hz), hw.nodup.filter _, fun y hy => hw.used y (sub y hy), fun y hy => ?_, hw.hS, hw.hB⟩
  rcases hw.up y (sub y hy) with e | ⟨z, hz, e⟩
  · exact .inl e
  · exact .inr ⟨z, mem_del.2 ⟨hz, fun e2 => no_longer h0 y (sub y hy) (by rw [← e, e2])⟩, e⟩
theorem adr_del {C : Nat} {L : List Nd} {x y : Nd} (h0 : lg L x.path = 0) (hy : y ∈ L) {b o : Nat} (h : AdrOf C L y.path.dropLast b o) : AdrOf C (delL L x) y.path.dropLast b o := by
  rcases h with e | ⟨z, hz, e, e2⟩
  · exact .inl e
  · exact .inr ⟨z, mem_del.2 ⟨hz, fun e3 => no_longer h0 y hy (by rw [← e, e3])⟩, e, e2⟩
/-- the rows of the cache and of its nodes, whatever the counts of longer ones are -/
structure RowsL (w : World) (c : Ca) (L : List Nd) (N : Nat) (f : List (List Int) → Nat) : Prop where
  row : w.rowIs c.C 80 26 (cacheF c.pg c.S (f []) c.M c.O c.B N)
  node : ∀ x ∈ L, ∃ b o, AdrOf c.C L x.path.dropLast b o ∧ w.rowIs x.at_ 78 21 (nodeF x.path.length (lastP x.path) (.pointer (some ⟨b, o, none⟩)) (f x.path) x.blk x.used)
theorem CacheAt.rows {w : World} {c : Ca} {A : Nat → Prop} {L : List Nd} {N : Nat} (h : CacheAt w c A L N) : RowsL w c L N (lg L) := ⟨h.row, h.node⟩
theorem RowsL.chg {w w' : World} {c : Ca} {L : List Nd} {N : Nat} {f : List (List Int) → Nat} (h : RowsL w c L N f) {T : Nat → Prop} (k : Chg w w' T) (hC : ¬ T c.C) (hN : ∀ x ∈ L, ¬ T x.at_) : RowsL w' c L N f :=
  ⟨k.row h.row hC, fun x hx => by obtain ⟨b, o, h1, h2⟩ := h.node x hx; exact ⟨b, o, h1, k.row h2 (hN x hx)⟩⟩
/-- one less of those that are longer than p -/
def dmp (L : List Nd) (p q : List (List Int)) : Nat := if p = q then lg L q - 1 else lg L q
theorem RowsL.less {w : World} {c : Ca} {L : List Nd} {N : Nat} (h : RowsL w c L N (lg L)) (hw : Well c L N) {p : List (List Int)} {b o : Nat} (ha : AdrOf c.C L p b o) : RowsL (w.setCell ⟨b, o + 18, none⟩ (.int .i64 ((lg L p - 1 : Nat) : Int))) c L N (dmp L p) := by
  rcases ha with ⟨rfl, rfl, rfl⟩ | ⟨y, hy, rfl, rfl, rfl⟩
  · refine ⟨(h.row.set 20 _).congr (fun i hi => ?_), fun x hx => ?_⟩
    · unfold cacheF dmp
      by_cases e : i = 20
      · subst e; simp
      · simp only [if_neg e]
    · obtain ⟨b, o, h1, h2⟩ := h.node x hx
      refine ⟨b, o, h1, ?_⟩
      have := h2.setOther (a := ⟨c.C, 2 + 18, none⟩) (fun e => type_apart h.row h2 (by decide) e.symm) (.int .i64 ((lg L [] - 1 : Nat) : Int))
      unfold dmp
      rw [if_neg (fun e => hw.ne x hx e.symm)]
      exact this
  · obtain ⟨b0, o0, _, hry⟩ := h.node y hy
    refine ⟨?_, fun x hx => ?_⟩
    · unfold dmp
      rw [if_neg (hw.ne y hy)]
      exact h.row.setOther (a := ⟨y.at_, 0 + 18, none⟩) (fun e => type_apart h.row hry (by decide) e) _
    · obtain ⟨b, o, h1, h2⟩ := h.node x hx
      refine ⟨b, o, h1, ?_⟩
      by_cases e : x.at_ = y.at_
      · have := hw.dat x hx y hy e
        subst this
        refine (h2.set 18 _).congr (fun i hi => ?_)
        unfold nodeF dmp
        by_cases e : i = 18
        · subst e; simp
        · simp only [if_neg e]
      · have := h2.setOther (a := ⟨y.at_, 0 + 18, none⟩) e (.int .i64 ((lg L y.path - 1 : Nat) : Int))
        unfold dmp
        rw [if_neg (fun e2 => e (by rw [hw.dpath y hy x hx e2]))]
        exact this
theorem CacheAt.sub {w : World} {c : Ca} {A : Nat → Prop} {L : List Nd} {N : Nat} {x : Nd} (hw : Well c L N) (hx : x ∈ L) (h0 : lg L x.path = 0) (hr : RowsL w c L N (dmp L x.path.dropLast)) (ho : w.rowIs c.O 76 c.B (fun i => if i = x.blk then nilP else ownF L i))
    (hm : Groups w c.M c.O A (updG (grpL L) x.key (((withK L x.key).filter (fun y => decide (y ≠ x))).map Nd.ptr))) (aC : A c.C) (aO : A c.O) (aM : A c.M) (aN : ∀ y ∈ L, A y.at_) (low : ∀ b, A b → b < w.heap.size) : CacheAt w c A (delL L x) N := by
  have eq : ∀ q, dmp L x.path.dropLast q = lg (delL L x) q := fun q => by
    have := lg_del hw hx q
    unfold dmp
    split at this <;> rename_i e
    · rw [if_pos e]; omega
    · rw [if_neg e]; omega
  refine ⟨by rw [← eq]; exact hr.row, ho.congr (fun i _ => (ownF_del hw hx i).symm), hm.congr (fun k => (grpL_del L x k).symm), fun y hy => ?_, hw.del h0, aC, aO, aM, fun y hy => aN y (mem_del.1 hy).1, low⟩
  obtain ⟨b, o, h1, h2⟩ := hr.node y (mem_del.1 hy).1
  exact ⟨b, o, adr_del h0 (mem_del.1 hy).1 h1, by rw [← eq]; exact h2⟩
theorem step_delete {P : Program} {ops : Array Oper} {o : Oper} {a : Act} {w : World} {K : Act → World → Prop} {Q : Exit → Act → World → Prop} {E : Prop} (hgd : o.guard = none) (m k : Operand) (t kt : TypeId)
    (ho : o.op = .call { callee := .builtin .delete, args := #[m, k], argTypes := #[t, kt] }) (vm vk : Value) (hm : a.eval m = vm) (hk : a.eval k = vk) (w' : World) (hrun : (Builtin.delete_ #[t, kt] o.type #[vm, vk]).run P w = .ok (.tuple #[]) w') (h : K (a.put o.dst (.tuple #[])) w') :
    if Region.wanted o (yielded ops a.tmps) = true then Oper.wp P o a w K Q else E := by
  have hw : Region.wanted o (yielded ops a.tmps) = true := by simp [Region.wanted, hgd]
  rw [if_pos hw]
  unfold Oper.wp
  simp [execOp, ho, resolve, invoke, builtin, hm, hk, hrun, Result.andThen]
  exact h
/-- what a change of the map and of one list leaves -/
structure Stage (w3 : World) (c : Ca) (A : Nat → Prop) (L : List Nd) (N : Nat) (x : Nd) : Prop where
  rows : RowsL w3 c L N (lg L)
  own : w3.rowIs c.O 76 c.B (ownF L)
  map : Groups w3 c.M c.O A (updG (grpL L) x.key (((withK L x.key).filter (fun y => decide (y ≠ x))).map Nd.ptr))
  low : ∀ z, A z → z < w3.heap.size
theorem CacheAt.stage {w1 w3 : World} {c : Ca} {A : Nat → Prop} {L : List Nd} {N : Nat} (h : CacheAt w1 c A L N) {x : Nd} {v : Value} {l : List Value} (hv : LstAt w1 c.O A v l) (k : Chg w1 w3 (fun z => z = c.M ∨ v.ownBlock = some z)) (hm : Groups w3 c.M c.O A (updG (grpL L) x.key (((withK L x.key).filter (fun y => decide (y ≠ x))).map Nd.ptr))) : Stage w3 c A L N x := by
  have key : ∀ b n t F, w1.rowIs b t n F → (t ≠ 76 ∨ b = c.O) → ¬ (b = c.M ∨ v.ownBlock = some b) := by
    rintro b n t F hr ht (rfl | e)
    · obtain ⟨es, clock, g⟩ := h.map
      obtain ⟨y, hy, _⟩ := hr
      rw [g.blk] at hy
      cases hy
    · rcases ht with ht | rfl
      · exact own_row_ne hv.own hr ht e
      · exact (hv.area _ e).2 rfl
  exact ⟨h.rows.chg k (key _ _ _ _ h.row (.inl (by decide))) (fun y hy => by obtain ⟨_, _, _, hr⟩ := h.node y hy; exact key _ _ _ _ hr (.inl (by decide))), k.row h.own (key _ _ _ _ h.own (.inr rfl)), hm, fun z hz => Nat.lt_of_lt_of_le (h.low z hz) k.size⟩
theorem Stage.cells {w3 : World} {c : Ca} {A : Nat → Prop} {L : List Nd} {N : Nat} {x : Nd} (h : Stage w3 c A L N x) : w3.cell? ⟨c.C, 0, none⟩ = some (.pointer (some ⟨c.pg, 0, none⟩)) ∧ w3.cell? ⟨c.C, 24, none⟩ = some (.slice (some ⟨c.O, 0, none⟩) c.B c.B) := ⟨h.rows.row.cell (i := 0) (by decide), h.rows.row.cell (i := 24) (by decide)⟩
theorem Stage.adr {w3 : World} {c : Ca} {A : Nat → Prop} {L : List Nd} {N : Nat} {x : Nd} (h : Stage w3 c A L N x) {p : List (List Int)} {b o : Nat} (ha : AdrOf c.C L p b o) : w3.cell? ⟨b, o + 18, none⟩ = some (.int .i64 (lg L p)) ∧ ∀ j, w3.frozen? ⟨b, j, none⟩ = false := by
  rcases ha with ⟨rfl, rfl, rfl⟩ | ⟨y, hy, rfl, rfl, rfl⟩
  · exact ⟨h.rows.row.cell (i := 20) (by decide), h.rows.row.frozen⟩
  · obtain ⟨_, _, _, hr⟩ := h.rows.node y hy
    exact ⟨hr.cell (i := 18) (by decide), hr.frozen⟩
theorem Stage.fin {w3 : World} {c : Ca} {A : Nat → Prop} {L : List Nd} {N : Nat} {x : Nd} (h : Stage w3 c A L N x) (hw : Well c L N) (hx : x ∈ L) (h0 : lg L x.path = 0) (aC : A c.C) (aO : A c.O) (aM : A c.M) (aN : ∀ y ∈ L, A y.at_) {b o : Nat} (ha : AdrOf c.C L x.path.dropLast b o)
    {Z : World} (hz : Below (w3.setCell ⟨b, o + 18, none⟩ (.int .i64 ((lg L x.path.dropLast - 1 : Nat) : Int))).heap.size (w3.setCell ⟨b, o + 18, none⟩ (.int .i64 ((lg L x.path.dropLast - 1 : Nat) : Int))) Z) : CacheAt (Z.setCell ⟨c.O, x.blk, none⟩ nilP) c A (delL L x) N := by
  have hR := (h.rows.less hw ha).chg (Chg.of_below (fun _ => False) hz) id (fun _ _ t => t)
  have hbT : ∃ t n F, w3.rowIs b t n F ∧ t ≠ 76 := by
    rcases ha with ⟨_, rfl, _⟩ | ⟨y, hy, _, rfl, _⟩
    · exact ⟨_, _, _, h.rows.row, by decide⟩
    · obtain ⟨_, _, _, hr⟩ := h.rows.node y hy
      exact ⟨_, _, _, hr, by decide⟩
  obtain ⟨t, n, F, hrb, ht⟩ := hbT
  have hbO : c.O ≠ b := fun e => type_apart hrb h.own ht e.symm
  have hO := (Chg.of_below (fun _ => False) hz).row (h.own.setOther (a := ⟨b, o + 18, none⟩) hbO (.int .i64 ((lg L x.path.dropLast - 1 : Nat) : Int))) id
  have hbM : c.M ≠ b := fun e => by
    obtain ⟨es, clock, g⟩ := h.map
    obtain ⟨y, hy, _⟩ := hrb
    rw [← e, g.blk] at hy
    cases hy
  have hG := ((h.map.chg (Chg.of_set w3 b (o + 18) (.int .i64 ((lg L x.path.dropLast - 1 : Nat) : Int))) hbM (fun z _ _ hz' e => by
    have e : z = b := e
    subst e
    obtain ⟨cs, fr, e1⟩ := hz'
    obtain ⟨y, hy, _⟩ := hrb
    rw [e1] at hy
    cases hy
    exact ht rfl)).chg (Chg.of_below (fun _ => False) hz) id (fun _ _ _ _ t => t))
  have hMO : c.M ≠ c.O := fun e => by
    obtain ⟨es, clock, g⟩ := hG
    obtain ⟨y, hy, _⟩ := hO
    rw [← e, g.blk] at hy
    cases hy
  refine CacheAt.sub hw hx h0 (hR.chg (Chg.of_set Z c.O x.blk nilP) (fun e => type_apart hR.row hO (by decide) e) (fun y hy e => by
    obtain ⟨_, _, _, hr⟩ := hR.node y hy
    exact type_apart hr hO (by decide) e)) (hO.set x.blk nilP) (hG.chg (Chg.of_set Z c.O x.blk nilP) hMO (fun z _ hz' _ e => hz' e)) aC aO aM aN (fun z hz' => ?_)
  rw [World.size_setCell]
  have := h.low z hz'
  have := hz.size
  simp at this
  omega
end Go.Proofs.Ytaalinlggjimcaa
