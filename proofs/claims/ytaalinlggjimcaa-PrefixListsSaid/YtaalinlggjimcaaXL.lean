import Derived.Test.YtaalinlggjimcaaXK
import Derived.Test.YtaalinlggjimcaaHeld
namespace Go.Proofs.Ytaalinlggjimcaa
open Go.RowKit
/-! One more that is known: what it makes of the lists, and of memory. -/
theorem lg_add (L : List Nd) (x : Nd) (p : List (List Int)) : lg (L ++ [x]) p = lg L p + (if x.path.dropLast = p then 1 else 0) := by
  unfold lg
  rw [List.filter_append, List.length_append]
  by_cases e : x.path.dropLast = p <;> simp [e]
theorem ownF_add (L : List Nd) (x : Nd) (h : ∀ y ∈ L, y.blk ≠ x.blk) (i : Nat) : ownF (L ++ [x]) i = if i = x.blk then x.ptr else ownF L i := by
  unfold ownF
  rw [List.find?_append]
  by_cases e : i = x.blk
  · rw [if_pos e]
    have : L.find? (fun y => y.blk == i) = none := List.find?_eq_none.2 (fun y hy => by simpa [e] using h y hy)
    rw [this]
    simp [e]
  · rw [if_neg e]
    have : [x].find? (fun y => y.blk == i) = none := by simp [Ne.symm e]
    rw [this]
    simp
open Classical in
theorem grpL_add (L : List Nd) (x : Nd) (k : Value) : grpL (L ++ [x]) k = updG (grpL L) x.key (grpL L x.key ++ [x.ptr]) k := by
  unfold updG grpL
  rw [List.filter_append, List.map_append]
  by_cases e : k = x.key
  · subst e; simp
  · rw [if_neg e]
    have : ¬ x.key = k := fun h => e h.symm
    simp [this]
/-- what must hold of a new one -/
structure New (c : Ca) (L : List Nd) (x : Nd) (p : List (List Int)) (q : List Int) : Prop where
  path : x.path = p ++ [q]
  q : Pc q
  up : p = [] ∨ ∃ y ∈ L, y.path = p
  len : p.length + 1 ≤ c.B
  blk : x.blk < c.B
  nblk : ∀ y ∈ L, y.blk ≠ x.blk
  nat : ∀ y ∈ L, y.at_ ≠ x.at_
  npath : ∀ y ∈ L, y.path ≠ x.path
theorem New.drop {c : Ca} {L : List Nd} {x : Nd} {p : List (List Int)} {q : List Int} (h : New c L x p q) : x.path.dropLast = p := by rw [h.path]; simp
theorem New.last {c : Ca} {L : List Nd} {x : Nd} {p : List (List Int)} {q : List Int} (h : New c L x p q) : lastP x.path = q := by unfold lastP; rw [h.path]; simp
theorem New.leaf {c : Ca} {L : List Nd} {N : Nat} {x : Nd} {p : List (List Int)} {q : List Int} (h : New c L x p q) (hw : Well c L N) : lg (L ++ [x]) x.path = 0 := by
  rw [lg_add, if_neg]
  · unfold lg
    rw [List.filter_eq_nil_iff.2]
    · rfl
    · intro y hy
      simp only [decide_eq_true_eq]
      intro e
      rcases hw.up y hy with e1 | ⟨z, hz, e1⟩
      · rw [e1, h.path] at e
        have := congrArg List.length e
        simp at this
      · exact h.npath z hz (e1.trans e)
  · intro e
    have := congrArg List.length e
    rw [h.drop, h.path] at this
    simp at this
theorem New.well {c : Ca} {L : List Nd} {N : Nat} {x : Nd} {p : List (List Int)} {q : List Int} (h : New c L x p q) (hw : Well c L N) (hu : x.used ≤ N) : Well c (L ++ [x]) N := by
  have mem : ∀ y, y ∈ L ++ [x] ↔ y ∈ L ∨ y = x := fun y => by simp
  have hpp : ∀ r ∈ p, Pc r := by
    rcases h.up with e | ⟨y, hy, e⟩
    · rw [e]; simp
    · rw [← e]; exact hw.pcs y hy
  refine ⟨?_, ?_, ?_, ?_, ?_, ?_, ?_, ?_, ?_, ?_, hw.hS, hw.hB⟩
  · intro y hy
    rcases (mem y).1 hy with hy | rfl
    · exact hw.ne y hy
    · rw [h.path]; simp
  · intro y hy r hr
    rcases (mem y).1 hy with hy | rfl
    · exact hw.pcs y hy r hr
    · rw [h.path] at hr
      rcases List.mem_append.1 hr with hr | hr
      · exact hpp r hr
      · simp at hr; rw [hr]; exact h.q
  · intro y hy
    rcases (mem y).1 hy with hy | rfl
    · exact hw.blk y hy
    · exact h.blk
  · intro y hy
    rcases (mem y).1 hy with hy | rfl
    · exact hw.plen y hy
    · rw [h.path]; simpa using h.len
  · intro y hy z hz e
    rcases (mem y).1 hy with hy' | ey
    · rcases (mem z).1 hz with hz' | ez
      · exact hw.dblk y hy' z hz' e
      · rw [ez] at e; exact absurd e (h.nblk y hy')
    · rcases (mem z).1 hz with hz' | ez
      · rw [ey] at e; exact absurd e.symm (h.nblk z hz')
      · rw [ey, ez]
  · intro y hy z hz e
    rcases (mem y).1 hy with hy' | ey
    · rcases (mem z).1 hz with hz' | ez
      · exact hw.dat y hy' z hz' e
      · rw [ez] at e; exact absurd e (h.nat y hy')
    · rcases (mem z).1 hz with hz' | ez
      · rw [ey] at e; exact absurd e.symm (h.nat z hz')
      · rw [ey, ez]
  · intro y hy z hz e
    rcases (mem y).1 hy with hy' | ey
    · rcases (mem z).1 hz with hz' | ez
      · exact hw.dpath y hy' z hz' e
      · rw [ez] at e; exact absurd e (h.npath y hy')
    · rcases (mem z).1 hz with hz' | ez
      · rw [ey] at e; exact absurd e.symm (h.npath z hz')
      · rw [ey, ez]
  · refine List.nodup_append.2 ⟨hw.nodup, by simp, fun a ha b hb e => ?_⟩
    simp at hb
    subst hb
    subst e
    exact h.npath _ ha rfl
  · intro y hy
    rcases (mem y).1 hy with hy | rfl
    · exact hw.used y hy
    · exact hu
  · intro y hy
    rcases (mem y).1 hy with hy | rfl
    · rcases hw.up y hy with e | ⟨z, hz, e⟩
      · exact .inl e
      · exact .inr ⟨z, (mem z).2 (.inl hz), e⟩
    · rw [h.drop]
      rcases h.up with e | ⟨z, hz, e⟩
      · exact .inl e
      · exact .inr ⟨z, (mem z).2 (.inl hz), e⟩
theorem adr_add {C : Nat} {L : List Nd} {p : List (List Int)} {b o : Nat} (x : Nd) (h : AdrOf C L p b o) : AdrOf C (L ++ [x]) p b o := by
  rcases h with e | ⟨y, hy, e⟩
  · exact .inl e
  · exact .inr ⟨y, by simp [hy], e⟩
/-- the one longer is counted -/
def bmp (L : List Nd) (p q : List (List Int)) : Nat := lg L q + (if p = q then 1 else 0)
structure Bumped (w : World) (c : Ca) (L : List Nd) (N : Nat) (p : List (List Int)) : Prop where
  row : w.rowIs c.C 80 26 (cacheF c.pg c.S (bmp L p []) c.M c.O c.B N)
  node : ∀ x ∈ L, ∃ b o, AdrOf c.C L x.path.dropLast b o ∧ w.rowIs x.at_ 78 21 (nodeF x.path.length (lastP x.path) (.pointer (some ⟨b, o, none⟩)) (bmp L p x.path) x.blk x.used)
theorem CacheAt.bump {w : World} {c : Ca} {A : Nat → Prop} {L : List Nd} {N : Nat} (h : CacheAt w c A L N) {p : List (List Int)} {b o : Nat} (ha : AdrOf c.C L p b o) : Bumped (w.setCell ⟨b, o + 18, none⟩ (.int .i64 ((lg L p + 1 : Nat) : Int))) c L N p := by
  rcases ha with ⟨rfl, rfl, rfl⟩ | ⟨y, hy, rfl, rfl, rfl⟩
  · refine ⟨(h.row.set 20 _).congr (fun i hi => ?_), fun x hx => ?_⟩
    · unfold cacheF bmp
      by_cases e : i = 20
      · subst e; simp
      · simp only [if_neg e]
    · obtain ⟨b, o, h1, h2⟩ := h.node x hx
      refine ⟨b, o, h1, ?_⟩
      have := h2.setOther (a := ⟨c.C, 2 + 18, none⟩) (fun e => type_apart h.row h2 (by decide) e.symm) (.int .i64 ((lg L [] + 1 : Nat) : Int))
      unfold bmp
      rw [if_neg (fun e => h.well.ne x hx e.symm)]
      exact this
  · obtain ⟨b0, o0, _, hry⟩ := h.node y hy
    refine ⟨?_, fun x hx => ?_⟩
    · unfold bmp
      rw [if_neg (h.well.ne y hy)]
      exact h.row.setOther (a := ⟨y.at_, 0 + 18, none⟩) (fun e => type_apart h.row hry (by decide) e) _
    · obtain ⟨b, o, h1, h2⟩ := h.node x hx
      refine ⟨b, o, h1, ?_⟩
      by_cases e : x.at_ = y.at_
      · have := h.well.dat x hx y hy e
        subst this
        refine (h2.set 18 _).congr (fun i hi => ?_)
        unfold nodeF bmp
        by_cases e : i = 18
        · subst e; simp
        · simp only [if_neg e]
      · have := h2.setOther (a := ⟨y.at_, 0 + 18, none⟩) e (.int .i64 ((lg L y.path + 1 : Nat) : Int))
        unfold bmp
        rw [if_neg (fun e2 => e (by rw [h.well.dpath y hy x hx e2]))]
        exact this
theorem Bumped.chg {w w' : World} {c : Ca} {L : List Nd} {N : Nat} {p : List (List Int)} (h : Bumped w c L N p) {T : Nat → Prop} (k : Chg w w' T) (hC : ¬ T c.C) (hN : ∀ x ∈ L, ¬ T x.at_) : Bumped w' c L N p :=
  ⟨k.row h.row hC, fun x hx => by obtain ⟨b, o, h1, h2⟩ := h.node x hx; exact ⟨b, o, h1, k.row h2 (hN x hx)⟩⟩
/-- put together -/
theorem CacheAt.add {w : World} {c : Ca} {A : Nat → Prop} {L : List Nd} {N : Nat} {x : Nd} {p : List (List Int)} {q : List Int} {b o : Nat} (hn : New c L x p q) (hw : Well c L N) (hu : x.used ≤ N) (hb : Bumped w c L N p) (ha : AdrOf c.C L p b o)
    (hx : w.rowIs x.at_ 78 21 (nodeF x.path.length (lastP x.path) (.pointer (some ⟨b, o, none⟩)) 0 x.blk x.used)) (ho : w.rowIs c.O 76 c.B (fun i => if i = x.blk then x.ptr else ownF L i))
    (hm : Groups w c.M c.O A (updG (grpL L) x.key (grpL L x.key ++ [x.ptr]))) (aC : A c.C) (aO : A c.O) (aM : A c.M) (aN : ∀ y ∈ L, A y.at_) (aX : A x.at_) (low : ∀ b, A b → b < w.heap.size) : CacheAt w c A (L ++ [x]) N := by
  refine ⟨?_, ho.congr (fun i _ => (ownF_add L x hn.nblk i).symm), hm.congr (fun k => (grpL_add L x k).symm), ?_, hn.well hw hu, aC, aO, aM, ?_, low⟩
  · rw [lg_add, hn.drop]; exact hb.row
  · intro y hy
    rcases List.mem_append.1 hy with hy | hy
    · obtain ⟨b', o', h1, h2⟩ := hb.node y hy
      refine ⟨b', o', adr_add x h1, ?_⟩
      rw [lg_add, hn.drop]
      exact h2
    · simp at hy
      subst hy
      refine ⟨b, o, ?_, ?_⟩
      · rw [hn.drop]; exact adr_add _ ha
      · rw [hn.leaf hw]; exact hx
  · intro y hy
    rcases List.mem_append.1 hy with hy | hy
    · exact aN y hy
    · simp at hy; rw [hy]; exact aX
/-- the entry of a list, one more behind it, and stored -/
theorem lst_add {l : List Value} {x : Value} {j : Nat} (h : j < l.length) : lst l j = lst (l ++ [x]) j := by
  unfold lst
  rw [List.getD_eq_getElem?_getD, List.getD_eq_getElem?_getD, List.getElem?_append_left h]
theorem lst_last (l : List Value) (x : Value) : lst (l ++ [x]) l.length = x := by unfold lst; simp
structure Stored (W w10 : World) (M O : Nat) (A : Nat → Prop) (G : Value → List Value) (k x : Value) (g : Nat) : Prop where
  map : Groups w10 M O (fun b => A b ∨ b = g) (updG G k (G k ++ [x]))
  chg : Chg W w10 (fun b => b = M ∨ (b ≠ O ∧ A b ∧ ∃ cs fr, W.heap[b]? = some (.cells cs 76 fr)))
  gA : A g ∨ W.heap.size ≤ g
  gLt : g < w10.heap.size
theorem Groups.learn {W : World} {M O : Nat} {A : Nat → Prop} {G : Value → List Value} (h : Groups W M O A G) (hf : Few G) {k : Value} {l : Lit} (hk : keyOf Try.prog 75 k = some l) (x : Value) (aO : A O) (low : ∀ b, A b → b < W.heap.size) (Z : World) (hz : Below W.heap.size W Z) :
    ∃ v st Y, (Instr.mapEntry 70 (.map (some M)) k).run Try.prog Z = .ok (.tuple #[v, .int .i64 st]) Y ∧ Chg Z Y (fun b => b = M) ∧ Own Y 0 76 1 v (G k).length (lst (G k ++ [x])) ∧
      ∀ Y2 w9 g cap, Below Y.heap.size Y Y2 → Own w9 0 76 1 (.slice (some ⟨g, 0, none⟩) ((G k).length + 1) cap) ((G k).length + 1) (lst (G k ++ [x])) → App Y2 w9 v (.slice (some ⟨g, 0, none⟩) ((G k).length + 1) cap) →
        ∃ w10, (Instr.entryStore 70 (.map (some M)) (.int .i64 st) (.slice (some ⟨g, 0, none⟩) ((G k).length + 1) cap)).run Try.prog w9 = .ok () w10 ∧ Stored W w10 M O A G k x g := by
  have hZ : Groups Z M O A G := h.chg (Chg.of_below (fun _ => False) hz) id (fun _ _ _ _ t => t)
  obtain ⟨v, st, Y, r1, r2, r3, r4, _, r5⟩ := hZ.entry hf hk
  refine ⟨v, st, Y, r1, r2, r4.own.congr (fun j hj => lst_add (by omega)), fun Y2 w9 g cap hy ho ha => ?_⟩
  have cY : Chg Y w9 (fun b => v.ownBlock = some b) := Chg.pre hy (Chg.of_app ha)
  have hg : v.ownBlock = some g ∨ Y2.heap.size ≤ g := ha.blk g (by simp [Value.ownBlock])
  have hgO : A g ∨ W.heap.size ≤ g := by
    rcases hg with e | e
    · exact .inl (r4.area g e).1
    · have := hy.size; have := r3; have := hz.size; exact .inr (by omega)
  have hgl := (ho.lt g (by simp [Value.ownBlock])).2
  have hne : g ≠ O := by
    rcases hg with e | e
    · exact (r4.area g e).2
    · have := low O aO; have := hy.size; have := hz.size; omega
  obtain ⟨w10, q1, q2, q3⟩ := r5 w9 (.slice (some ⟨g, 0, none⟩) ((G k).length + 1) cap) x (fun b => A b ∨ b = g) cY (fun b t => .inl t) ⟨by simpa using ho, fun b hb => by
    simp [Value.ownBlock] at hb
    subst hb
    exact ⟨.inr rfl, hne⟩⟩ (fun b hb => by
      simp [Value.ownBlock] at hb
      subst hb
      rcases hg with e | e
      · exact .inl e
      · exact .inr (Nat.le_trans hy.size e))
  refine ⟨w10, q1, q3, ?_, hgO, Nat.lt_of_lt_of_le hgl q2.size⟩
  refine ((Chg.pre hz (r2.imp (fun b _ e => Or.inl e))).trans cY (fun b hb t => ?_)).trans q2 (fun b _ e => Or.inl e)
  by_cases e : b = M
  · exact .inl e
  · obtain ⟨cs, fr, hc⟩ := own_type r4.own t
    refine .inr ⟨(r4.area b t).2, (r4.area b t).1, cs, fr, ?_⟩
    rw [← hc, r2.block b (Nat.lt_of_lt_of_le hb hz.size) e, hz.block b hb]
theorem Stored.row {W w10 : World} {M O : Nat} {A : Nat → Prop} {G : Value → List Value} {k x : Value} {g : Nat} (h : Stored W w10 M O A G k x g) (hM : ∃ es clock, W.heap[M]? = some (.map es clock)) {b n : Nat} {t : TypeId} {F : Nat → Value} (hr : W.rowIs b t n F) (ht : t ≠ 76 ∨ b = O) : w10.rowIs b t n F := by
  refine h.chg.row hr (fun e => ?_)
  obtain ⟨y, hy, _⟩ := hr
  rcases e with rfl | ⟨e1, _, cs, fr, e2⟩
  · obtain ⟨es, clock, e⟩ := hM
    rw [e] at hy
    cases hy
  · rcases ht with ht | ht
    · rw [e2] at hy
      cases hy
      exact ht rfl
    · exact e1 ht
theorem own_row_ne {w : World} {v : Value} {n : Nat} {cs : Nat → Value} (h : Own w 0 76 1 v n cs) {b m : Nat} {t : TypeId} {F : Nat → Value} (hr : w.rowIs b t m F) (ht : t ≠ 76) : v.ownBlock ≠ some b := fun e => by
  obtain ⟨cs, fr, e2⟩ := own_type h e
  obtain ⟨y, hy, _⟩ := hr
  rw [e2] at hy
  cases hy
  exact ht rfl
end Go.Proofs.Ytaalinlggjimcaa
