import Derived.Test.YtemmghneohnigabDoorWwG
namespace Go.Proofs.YtemmghneohnigabDoor
open Go.RowKit
/-! Lists that are written over and grown: what stays. -/
theorem own_blkW {w : World} {base : Nat} {e : TypeId} {sz : Nat} {u : Option Addr} {n c : Nat} {cs : Nat → Value} (h : Own w base e sz (.slice u n c) n cs) (hn : 0 < n) : ∃ g, u = some ⟨g, 0, none⟩ ∧ base ≤ g ∧ g < w.heap.size := by
  rcases h.2 with ⟨e, h0⟩ | ⟨g, cap, cur, e, hb, hg, _⟩
  · exact absurd h0 (by omega)
  · cases e
    exact ⟨g, rfl, hb, (Array.getElem?_eq_some_iff.1 hg).1⟩
theorem own_fzW {w : World} {base : Nat} {e : TypeId} {sz : Nat} {g n c : Nat} {cs : Nat → Value} (h : Own w base e sz (.slice (some ⟨g, 0, none⟩) n c) n cs) : ∀ i, w.frozen? ⟨g, i, none⟩ = false := by
  rcases h.2 with ⟨e, _⟩ | ⟨g', cap, cur, e, hb, hg, _⟩
  · cases e
  · cases e
    intro i
    simp [World.frozen?, hg]
theorem Own.putW {w : World} {base : Nat} {e : TypeId} {sz g cap n : Nat} {cs : Nat → Value} (h : Own w base e sz (.slice (some ⟨g, 0, none⟩) n cap) n cs) (j : Nat) (x : Value) : Own (w.setCell ⟨g, j, none⟩ x) base e sz (.slice (some ⟨g, 0, none⟩) n cap) n (fun i => if i = j then x else cs i) := by
  have := (World.ownsRow.stored h j x).1
  unfold Own
  have e1 : (List.range (n * sz)).map (fun i => if i = j then x else cs i) = ((List.range (n * sz)).map cs).set j x := by
    refine List.ext_getElem? (fun i => ?_)
    rw [List.getElem?_set]
    by_cases hi : i < n * sz
    · by_cases e : j = i
      · subst e
        simp [hi]
      · rw [if_neg e]
        simp [hi]
        exact fun q => absurd q.symm e
    · simp [hi]
      omega
  rw [e1]
  exact this
theorem apart_ofW {w w' : World} {b b' : Nat} {e e' : TypeId} {s s' n n' : Nat} {v v' : Value} {cs cs' : Nat → Value} (h : Own w b e s v n cs) (h' : Own w' b' e' s' v' n' cs') (hb : w.heap.size ≤ b') : Off v v' := fun k hk' hk => by
  have := (h.lt k hk').2
  have := (h'.lt k hk).1
  omega
theorem apart_tyW {w : World} {b b' : Nat} {e e' : TypeId} {s s' n n' : Nat} {v v' : Value} {cs cs' : Nat → Value} (h : Own w b e s v n cs) (h' : Own w b' e' s' v' n' cs') (hne : e ≠ e') : Off v v' := fun k hk hk' => by
  rcases h.2 with ⟨rfl, rfl⟩ | ⟨g, cap, cur, rfl, _, hg, _⟩
  · simp [Value.ownBlock] at hk
  · rcases h'.2 with ⟨rfl, rfl⟩ | ⟨g', cap', cur', rfl, _, hg', _⟩
    · simp [Value.ownBlock] at hk'
    · simp only [Value.ownBlock, Option.some.injEq] at hk hk'
      subst hk hk'
      rw [hg] at hg'
      injection hg' with q
      injection q with _ q2
      exact hne q2
theorem wpList_appX {P : Program} (w : World) {ops : Array Oper} {rest : List Oper} {o : Oper} {a : Act} {Q : Exit → Act → World → Prop}
    (hg : o.guard = none) (s x : Operand) (t : TypeId) (hop : o.op = Op.call { callee := Callee.builtin Builtin.append, args := #[s, x], argTypes := #[t, t] })
    (base : Nat) (e : TypeId) (z : Value) (sz bytes : Nat) (h1 : P.underlying t = some (.slice e)) (hinfo : (P.info? e).map (fun i => (i.zero, i.size, i.bytes)) = some (some z, sz, bytes)) (h6 : z.cells.size = sz) (h7 : 0 < sz)
    (v : Value) (n : Nat) (cs : Nat → Value) (hs : a.eval s = v) (hown : Own w base e sz v n cs)
    (g m c : Nat) (hx : a.eval x = .slice (some ⟨g, 0, none⟩) m c) (hc : ∀ j, j < m * sz → w.cell? ⟨g, j, none⟩ = some (cs (n * sz + j))) (h1c : ∀ j, j < m * sz → (cs (n * sz + j)).oneCell' = true)
    (hm : 0 < m) (b1 : n + m ≤ maxLen) (b2 : (n + m) * bytes ≤ 140737488355328) (hb : base ≤ w.heap.size)
    (hK : ∀ v' w', Own w' base e sz v' (n + m) cs → App w w' v v' → (v'.ownBlock = v.ownBlock ∨ Below w.heap.size w w') → wpList P ops Q rest (a.put o.dst v') w') : wpList P ops Q (o :: rest) a w := by
  obtain ⟨i, hi, hz0, hz1, hz2⟩ := info_parts hinfo
  have hn : ((List.range (m * sz)).map (fun j => cs (n * sz + j))).length = m * sz := by simp
  have hc' : ∀ j u, ((List.range (m * sz)).map (fun j => cs (n * sz + j)))[j]? = some u → w.cell? ((⟨g, 0, none⟩ : Addr).add j) = some u := by
    intro j u hu
    rw [add_lit0]
    by_cases hj : j < m * sz
    · simp [hj] at hu; rw [hc j hj, hu]
    · simp [hj] at hu
  have h1c' : ∀ u ∈ (List.range (m * sz)).map (fun j => cs (n * sz + j)), u.oneCell' = true := by
    intro u hu
    obtain ⟨j, hj, rfl⟩ := List.mem_map.1 hu
    exact h1c j (List.mem_range.1 hj)
  rcases hown.2 with ⟨rfl, rfl⟩ | ⟨k, cap, cur, rfl, hbg, hgg, hnc, hcm, hcs, htake⟩
  · refine wpList_append_grows w hg s x t hop e i z sz bytes h1 hi hz0 hz1 hz2 h6 h7 none 0 0 [] hs (fun _ => ⟨rfl, rfl⟩) (by simp) (fun b hb => by cases hb) ⟨g, 0, none⟩ m c _ hx hn hc' h1c' (by omega) b1 b2 ?_
    intro v' w' ho hgr
    refine hK v' w' ?_ ⟨hgr, fun k hk => .inr (World.ownsRow.lt ho k hk).1⟩ (.inr ⟨hgr.os, hgr.tape, hgr.output, hgr.size, fun k hk => hgr.block k hk (by simp)⟩)
    have hx' := Own.weaken (cs := cs) (base' := base) (n := 0 + m) (by unfold Own; rw [← news_len 0 m sz cs]; simpa using ho) hb
    exact hx'
  · by_cases hroom : n + m ≤ cap
    · refine wpList_plain hg fun K hK' => ?_
      obtain ⟨w', hr, ho, hgr⟩ := run_append_fits (P := P) w base t o.type e i sz h1 hi hz1 k n cap _ hown ⟨g, 0, none⟩ m c _ hn hc' h1c' hroom
      unfold Oper.wp execOp
      simp only [hop, resolve, invoke, builtin, Sem.run_bind, Sem.run_pure, Result.andThen_ok, List.map_toArray, List.map_cons, List.map_nil, hs, hx, hr]
      exact hK' _ _ (hK _ w' (by unfold Own; rw [← news_len n m sz cs]; exact ho) ⟨hgr, fun k hk => .inl hk⟩ (.inl rfl))
    · refine wpList_append_grows w hg s x t hop e i z sz bytes h1 hi hz0 hz1 hz2 h6 h7 (some ⟨k, 0, none⟩) n cap ((List.range (n * sz)).map cs) hs (fun h => by cases h) hown.1 (fun b hb => by cases hb; exact World.ownsRow.cells hown (g := k) rfl) ⟨g, 0, none⟩ m c _ hx hn hc' h1c' (by omega) b1 b2 ?_
      intro v' w' ho hgr
      refine hK v' w' ?_ ⟨⟨hgr.os, hgr.tape, hgr.output, hgr.size, fun k hk _ => hgr.block k hk (by simp)⟩, fun k hk => .inr (World.ownsRow.lt ho k hk).1⟩ (.inr ⟨hgr.os, hgr.tape, hgr.output, hgr.size, fun k hk => hgr.block k hk (by simp)⟩)
      exact Own.weaken (cs := cs) (base' := base) (n := n + m) (by unfold Own; rw [← news_len n m sz cs]; exact ho) hb
theorem LineQ.lensW {k : Nat} {n : Int} {nums : List Int} {u : Nat} {g t : List Int} {st : List (List Int)} {x : List Int} (h : LineQ k n nums u g t st x) : t.length ≤ 8192 ∧ nums.length ≤ 8192 ∧ st.length ≤ 8192 := by
  obtain ⟨_, hc, ho, e, hl⟩ := h.form
  have e2 := congrArg List.length e
  simp only [List.length_append, List.length_cons] at e2
  have a1 := lit_len g
  have a2 := pies_len g
  have a3 := lit_len t
  have a4 := pies_len t
  have a5 := stL_len st
  have a6 : nums.length ≤ 6 := by rw [hc]; unfold cntW; split <;> (try split) <;> omega
  unfold onlyW at ho
  unfold bhL at e2
  by_cases k0 : k = 0
  · rw [if_pos k0] at e2
    simp only [List.length_append, List.length_cons] at e2
    exact ⟨by omega, by omega, by omega⟩
  · rw [if_neg k0] at ho e2
    by_cases k4 : k = 4
    · rw [if_pos k4] at ho e2
      obtain ⟨_, rfl, rfl⟩ := ho
      simp only [List.length_cons] at e2
      exact ⟨by omega, by omega, by simp⟩
    · rw [if_neg k4] at ho
      obtain ⟨rfl, _, rfl, rfl⟩ := ho
      exact ⟨by simp, by omega, by simp⟩
theorem UnqP.len {t b : List Int} (h : UnqP t b) : b.length ≤ t.length := by
  have h1 := h.2.length_le
  have h2 := lit_len b
  have h3 := pies_len b
  omega
/-- a list grown out of another one: r elements more; what the first one holds is still there -/
structure Ovl (w wr : World) (e : TypeId) (v u : Value) (n r : Nat) (x y : Value) : Prop where
  own : Own wr 0 e 1 u (n + r) (fun j => if j < n then x else y)
  blk : ∀ z, u.ownBlock = some z → v.ownBlock = some z ∨ w.heap.size ≤ z
  old : Rd wr v 1 n (fun _ => x)
theorem Ovl.start {w : World} {e : TypeId} {v : Value} {n c : Nat} {x y : Value} (h : Own w c e 1 v n (fun _ => x)) : Ovl w w e v v n 0 x y :=
  ⟨(h.weaken (Nat.zero_le _)).congr (fun j hj => by
    show x = if j < n then x else y
    rw [if_pos (by omega)]), fun _ hz => .inl hz, h.rd⟩
theorem Ovl.off {w wr : World} {e : TypeId} {v u : Value} {n r : Nat} {x y : Value} (h : Ovl w wr e v u n r x y) {t : Value} (hv : Off v t) (ht : ∀ z, t.ownBlock = some z → z < w.heap.size) : Off u t := fun z hz hz' => by
  rcases h.blk z hz with q | q
  · exact hv z q hz'
  · have := ht z hz'; omega
theorem Ovl.next {w wr wa w' : World} {e : TypeId} {v u u' : Value} {n r c : Nat} {x y : Value} {cs : Nat → Value} (h : Ovl w wr e v u n r x y) (hs : w.heap.size ≤ wr.heap.size) (fa : Below wr.heap.size wr wa) (hv : Own w c e 1 v n cs)
    (ho : Own w' 0 e 1 u' (n + r + 1) (fun j => if j < n then x else y)) (ha : App wa w' u u') (hm : u'.ownBlock = u.ownBlock ∨ Below wa.heap.size wa w') : Ovl w w' e v u' n (r + 1) x y := by
  have hs2 := fa.size
  refine ⟨ho, fun z hz => ?_, ?_⟩
  · rcases ha.blk z hz with q | q
    · exact h.blk z q
    · exact .inr (by omega)
  · rcases hv.2 with ⟨rfl, rfl⟩ | ⟨g, cap, cur, rfl, hb, hg, hnc, hcm, _⟩
    · exact ⟨none, 0, rfl, Nat.le_refl _, Nat.zero_le _, fun h => absurd h (by omega)⟩
    · refine ⟨_, cap, rfl, hnc, hcm, fun h0 => ⟨g, 0, rfl, fun j hj => ?_⟩⟩
      by_cases hug : u'.ownBlock = some g
      · obtain ⟨ao', cap', rfl, hr⟩ := ho.rd
        obtain ⟨b, off, rfl, hc⟩ := hr.one (by omega)
        rcases ho.2 with ⟨q, _⟩ | ⟨g', c', cur', q, _⟩
        · cases q
        · cases q
          simp only [Value.ownBlock, Option.some.injEq] at hug
          subst hug
          have := hc j (by omega)
          rw [this, if_pos (by omega)]
      · obtain ⟨ao2, c2, q, hr⟩ := h.old.fresh fa
        cases q
        obtain ⟨b, off, q, hc⟩ := hr.one h0
        cases q
        have hcj := hc j (by omega)
        rcases hm with hm | hm
        · exact ha.grown.cell hcj (fun q => hug (by rw [hm]; exact q.symm))
        · exact fresh_cell hm hcj
/-- the others stay where one is grown -/
theorem Ovl.keep {w wr w' : World} {S : Nat → Prop} {e : TypeId} {v u : Value} {n r c : Nat} {x y : Value} {cs : Nat → Value} (h : Ovl w wr e v u n r x y) (hv : Own w c e 1 v n cs) (k : Chg wr w' S) (hu : ∀ z, u.ownBlock = some z → ¬ S z) (hvS : ∀ z, v.ownBlock = some z → ¬ S z) : Ovl w w' e v u n r x y := by
  refine ⟨h.own.chg k hu, h.blk, ?_⟩
  rcases hv.2 with ⟨rfl, rfl⟩ | ⟨g, cap, cur, rfl, hb, hg, hnc, hcm, _⟩
  · exact ⟨none, 0, rfl, Nat.le_refl _, Nat.zero_le _, fun h => absurd h (by omega)⟩
  · refine ⟨_, cap, rfl, hnc, hcm, fun h0 => ⟨g, 0, rfl, fun j hj => ?_⟩⟩
    obtain ⟨ao2, c2, q, hr⟩ := h.old
    cases q
    obtain ⟨b, off, q, hc⟩ := hr.one h0
    cases q
    have hcj := hc j (by omega)
    rw [World.cell?_of_block (k.block g (lt_of_cell hcj) (hvS g rfl))]
    exact hcj
/-- what Parse of a text gives, one way for all texts; the reference's too -/
theorem par_one {text : List Int} (hB : Byt text) (hmax : text.length ≤ 140737488351232) : ∃ (wd gd : ByteArray) (n : Int) (u : Int) (er : Int) (t nums : List Int) (st : List (List Int)), (er = 0 ∨ er = 220) ∧ t.length ≤ 8192 ∧ nums.length ≤ 8192 ∧ st.length ≤ 8192 ∧
    (∀ w, Env w → Calls Tryd.prog 6 #[.string (strOfNums text)] w fun e w' => ∃ ao ac bo bc co cc, e = .returned (.tuple #[.agg (lnA wd n ao t.length ac bo nums.length bc u gd co st.length cc), .int .i64 er]) ∧ Own w' w.heap.size 5 1 (.slice ao t.length ac) t.length (byc t) ∧ Own w' w.heap.size 3 1 (.slice bo nums.length bc) nums.length (mkN nums) ∧ Own w' w.heap.size 9 1 (.slice co st.length cc) st.length (stc st) ∧ Below w.heap.size w w') ∧
    (∀ w, Calls Tryd.prog 7 #[.string (strOfNums text)] w fun e w' => ∃ ao ac bo bc co cc, e = .returned (.tuple #[.agg (lnA wd n ao t.length ac bo nums.length bc u gd co st.length cc), .int .i64 er]) ∧ Own w' w.heap.size 5 1 (.slice ao t.length ac) t.length (byc t) ∧ Own w' w.heap.size 3 1 (.slice bo nums.length bc) nums.length (mkN nums) ∧ Own w' w.heap.size 9 1 (.slice co st.length cc) st.length (stc st) ∧ Below w.heap.size w w') := by
  by_cases h : ∃ k n nums u g t st, LineQ k n nums u g t st text
  · obtain ⟨k, n, nums, u, g, t, st, hq⟩ := h
    have hlen := hq.lensW
    refine ⟨strOfNums (wNm k), strOfNums g, n, (u : Int), 0, t, nums, st, .inl rfl, hlen.1, hlen.2.1, hlen.2.2, fun w hE => ?_, fun w => ?_⟩
    · refine (parse_all hB hmax hE).mono ?_
      rintro e w' ⟨⟨k', n', nums', u', g', t', st', ao', ac', bo', bc', co', cc', q', uq', rfl, o1, o2, o3⟩ | ⟨no, _⟩, hf⟩
      · obtain ⟨rfl, rfl, rfl, rfl, rfl, rfl, rfl⟩ := uq' _ _ _ _ _ _ _ hq
        exact ⟨ao', ac', bo', bc', co', cc', rfl, o1, o2, o3, hf⟩
      · exact absurd ⟨_, _, _, _, _, _, _, hq⟩ no
    · have HRT : Calls Tryd.prog 7 #[.string (strOfNums text)] w fun e w' => ParB text w e w' ∧ Below w.heap.size w w' := rparse_any hB hmax
      refine HRT.mono ?_
      rintro e w' ⟨⟨k', n', nums', u', g', t', st', ao', ac', bo', bc', co', cc', q', uq', rfl, o1, o2, o3⟩ | ⟨no, _⟩, hf⟩
      · obtain ⟨rfl, rfl, rfl, rfl, rfl, rfl, rfl⟩ := uq' _ _ _ _ _ _ _ hq
        exact ⟨ao', ac', bo', bc', co', cc', rfl, o1, o2, o3, hf⟩
      · exact absurd ⟨_, _, _, _, _, _, _, hq⟩ no
  · refine ⟨⟨#[]⟩, ⟨#[]⟩, 0, 0, 220, [], [], [], .inr rfl, Nat.zero_le _, Nat.zero_le _, Nat.zero_le _, fun w hE => ?_, fun w => ?_⟩
    · refine (parse_all hB hmax hE).mono ?_
      rintro e w' ⟨⟨k', n', nums', u', g', t', st', ao', ac', bo', bc', co', cc', q', uq', rfl, o1, o2, o3⟩ | ⟨no, rfl⟩, hf⟩
      · exact absurd ⟨_, _, _, _, _, _, _, q'⟩ h
      · exact ⟨none, 0, none, 0, none, 0, rfl, own_nil _ _ _ _ _, own_nil _ _ _ _ _, own_nil _ _ _ _ _, hf⟩
    · have HRT : Calls Tryd.prog 7 #[.string (strOfNums text)] w fun e w' => ParB text w e w' ∧ Below w.heap.size w w' := rparse_any hB hmax
      refine HRT.mono ?_
      rintro e w' ⟨⟨k', n', nums', u', g', t', st', ao', ac', bo', bc', co', cc', q', uq', rfl, o1, o2, o3⟩ | ⟨no, rfl⟩, hf⟩
      · exact absurd ⟨_, _, _, _, _, _, _, q'⟩ h
      · exact ⟨none, 0, none, 0, none, 0, rfl, own_nil _ _ _ _ _, own_nil _ _ _ _ _, own_nil _ _ _ _ _, hf⟩
theorem unq_one {text : List Int} (hB : Byt text) (hmax : text.length ≤ 35184372080000) : ∃ (b : List Int) (m er : Int), b.length ≤ 35184372080000 ∧
    (∀ w, Env w → Calls Tryd.prog 10 #[.string (strOfNums text)] w fun e w' => ∃ ao cap, e = .returned (.tuple #[.slice ao b.length cap, .int .i64 m, .int .i64 er]) ∧ Own w' w.heap.size 5 1 (.slice ao b.length cap) b.length (byc b) ∧ Below w.heap.size w w') ∧
    (∀ w, Calls Tryd.prog 9 #[.string (strOfNums text)] w fun e w' => ∃ ao cap, e = .returned (.tuple #[.slice ao b.length cap, .int .i64 m, .int .i64 er]) ∧ Own w' w.heap.size 5 1 (.slice ao b.length cap) b.length (byc b) ∧ Below w.heap.size w w') := by
  by_cases h : ∃ b, UnqP text b
  · obtain ⟨b, hb⟩ := h
    refine ⟨b, _, 0, Nat.le_trans hb.len hmax, fun w hE => unq_ok hB (by omega) hb hE.errs, fun w => runq_ok hB hmax hb w⟩
  · refine ⟨[], 0, 220, Nat.zero_le _, fun w hE => (unq_bad hB (by omega) h hE.errs).mono ?_, fun w => (runq_bad hB hmax h w).mono ?_⟩
    · rintro e w' ⟨rfl, hf⟩
      exact ⟨none, 0, rfl, own_nil _ _ _ _ _, hf⟩
    · rintro e w' ⟨rfl, hf⟩
      exact ⟨none, 0, rfl, own_nil _ _ _ _ _, hf⟩
end Go.Proofs.YtemmghneohnigabDoor
namespace Go.Proofs.YtemmghneohnigabDoor
open Go.ChangeShapes Go.WideShapes Go.ChangeAt Go.RowKit
/-! WireLists: a line with its lists. -/
theorem wpList_app1X {P : Program} (w : World) {ops : Array Oper} {rest : List Oper} {o : Oper} {a : Act} {Q : Exit → Act → World → Prop}
    (hg : o.guard = none) (s x : Operand) (t : TypeId) (hop : o.op = Op.call { callee := Callee.builtin Builtin.append, args := #[s, x], argTypes := #[t, t] })
    (base : Nat) (e : TypeId) (z : Value) (bytes : Nat) (h1 : P.underlying t = some (.slice e)) (hinfo : (P.info? e).map (fun i => (i.zero, i.size, i.bytes)) = some (some z, 1, bytes)) (h6 : z.cells.size = 1)
    (v : Value) (n : Nat) (cs : Nat → Value) (hs : a.eval s = v) (hown : Own w base e 1 v n cs)
    (g c : Nat) (hx : a.eval x = .slice (some ⟨g, 0, none⟩) 1 c) (hc : w.cell? ⟨g, 0, none⟩ = some (cs n)) (h1c : (cs n).oneCell' = true)
    (b1 : n < 9223372036854775807) (b2 : (n + 1) * bytes ≤ 140737488355328) (hb : base ≤ w.heap.size)
    (hK : ∀ v' w', Own w' base e 1 v' (n + 1) cs → App w w' v v' → (v'.ownBlock = v.ownBlock ∨ Below w.heap.size w w') → wpList P ops Q rest (a.put o.dst v') w') : wpList P ops Q (o :: rest) a w :=
  wpList_appX w hg s x t hop base e z 1 bytes h1 hinfo h6 (by decide) v n cs hs hown g 1 c hx
    (fun j hj => by obtain rfl : j = 0 := by omega
                    simpa using hc) (fun j hj => by obtain rfl : j = 0 := by omega
                                                    simpa using h1c) (by decide) (by unfold maxLen; omega) b2 hb hK
/-- a line in a block, with its lists -/
structure LnI (w : World) (base : Nat) (row : Array Value) (lb : Nat) (ty : TypeId) (va vn vs : Value) (tl nl sl : Nat) (ct cn cst : Nat → Value) : Prop where
  row : Blk w lb ty row
  t : Own w base 5 1 va tl ct
  n : Own w base 3 1 vn nl cn
  s : Own w base 9 1 vs sl cst
theorem LnI.fresh {w w' : World} {base : Nat} {row : Array Value} {lb : Nat} {ty : TypeId} {va vn vs : Value} {tl nl sl : Nat} {ct cn cst : Nat → Value} (h : LnI w base row lb ty va vn vs tl nl sl ct cn cst) (f : Below w.heap.size w w') : LnI w' base row lb ty va vn vs tl nl sl ct cn cst :=
  ⟨h.row.fresh f, h.t.kept f, h.n.kept f, h.s.kept f⟩
theorem LnI.chg {w w' : World} {S : Nat → Prop} {base : Nat} {row : Array Value} {lb : Nat} {ty : TypeId} {va vn vs : Value} {tl nl sl : Nat} {ct cn cst : Nat → Value} (h : LnI w base row lb ty va vn vs tl nl sl ct cn cst) (c : Chg w w' S) (hr : ¬ S lb)
    (h1 : ∀ k, va.ownBlock = some k → ¬ S k) (h2 : ∀ k, vn.ownBlock = some k → ¬ S k) (h3 : ∀ k, vs.ownBlock = some k → ¬ S k) : LnI w' base row lb ty va vn vs tl nl sl ct cn cst :=
  ⟨h.row.chg c hr, h.t.chg c h1, h.n.chg c h2, h.s.chg c h3⟩
/-- where a list lies -/
def Rng (lo hi : Nat) (v : Value) : Prop := ∀ k, v.ownBlock = some k → lo ≤ k ∧ k < hi
theorem Rng.no {lo hi : Nat} {v : Value} (h : Rng lo hi v) {S : Nat → Prop} (hS : ∀ k, lo ≤ k → k < hi → ¬ S k) : ∀ k, v.ownBlock = some k → ¬ S k := fun k hk => hS k (h k hk).1 (h k hk).2
theorem Rng.off {lo hi lo' hi' : Nat} {v v' : Value} (h : Rng lo hi v) (h' : Rng lo' hi' v') (hh : hi ≤ lo' ∨ hi' ≤ lo) : Off v v' := fun k hk hk' => by
  have := h k hk
  have := h' k hk'
  omega
theorem Rng.imp {w w' : World} {lo hi : Nat} {v : Value} (h : Rng lo hi v) {S : Nat → Prop} (c : Chg w w' (fun b => v.ownBlock = some b)) (hS : ∀ k, lo ≤ k → k < hi → S k) : Chg w w' S := c.imp (fun k _ hk => hS k (h k hk).1 (h k hk).2)
end Go.Proofs.YtemmghneohnigabDoor
namespace Go.Proofs.YtemmghneohnigabDoor
open Go.RowKit
/-! Four lists that are grown in turn. -/
theorem wpList_load_rowG {P : Program} {ops : Array Oper} {rest : List Oper} {o : Oper} {a : Act} {w : World} {Q : Exit → Act → World → Prop} (hw : Region.wanted o (yielded ops a.tmps) = true) (ty : TypeId) (x : Operand) (ho : o.op = .load ty x)
    (g : Nat) (hx : a.eval x = .pointer (some ⟨g, 0, none⟩)) (t : TypeId) (cs : Array Value) (fr : Nat × Nat) (d : TypeDesc) (hg : w.heap[g]? = some (.cells cs t fr))
    (hu : P.underlying ty = some d) (hd : (match d with | .struct _ | .array _ _ => true | _ => false) = true) (hi : (P.info? ty).map (·.size) = some cs.size)
    (h : wpList P ops Q rest (a.put o.dst (.agg cs)) w) : wpList P ops Q (o :: rest) a w :=
  wpList_step fun _ hK => by
    simp only [hw, if_true]
    exact wp_load_row ty x ho g hx t cs fr d hg hu hd hi (hK _ _ h)
theorem new_gr (w0 : World) (t : TypeId) (n q : Nat) (x y : Value) : (w0.alloc (.cells #[y] t)).cell? ⟨w0.heap.size, 0, none⟩ = some ((fun j => if j < n then x else y) (n + q)) := by
  show _ = some (if n + q < n then x else y)
  rw [if_neg (by omega)]
  exact new_cell _ _ _
theorem one_gr (n q : Nat) (x y : Value) (h : y.oneCell' = true) : ((fun j => if j < n then x else y) (n + q)).oneCell' = true := by
  show (if n + q < n then x else y).oneCell' = true
  rw [if_neg (by omega)]
  exact h
/-- the lists as they were before they grew -/
structure St4 (W0 w0 : World) (S : Nat → Prop) (vA vC vN vS : Value) (tl ul nl sl : Nat) (a1 c1 n1 s1 : Value) : Prop where
  A : ∃ b, Own w0 b 5 1 vA tl (fun _ => a1)
  C : ∃ b, Own w0 b 5 1 vC ul (fun _ => c1)
  N : ∃ b, Own w0 b 3 1 vN nl (fun _ => n1)
  Z : ∃ b, Own w0 b 9 1 vS sl (fun _ => s1)
  ac : Off vA vC
  an : Off vA vN
  ax : Off vA vS
  cn : Off vC vN
  cs : Off vC vS
  ns : Off vN vS
  sA : ∀ k, vA.ownBlock = some k → S k
  sC : ∀ k, vC.ownBlock = some k → S k
  sN : ∀ k, vN.ownBlock = some k → S k
  sS : ∀ k, vS.ownBlock = some k → S k
  chg : Chg W0 w0 S
structure Gr4 (W0 w0 wr : World) (S : Nat → Prop) (vA vC vN vS tv uv nv sv : Value) (tl ul nl sl qa qc qn qs : Nat) (a1 a2 c1 c2 n1 n2 s1 s2 : Value) : Prop where
  A : Ovl w0 wr 5 vA tv tl qa a1 a2
  C : Ovl w0 wr 5 vC uv ul qc c1 c2
  N : Ovl w0 wr 3 vN nv nl qn n1 n2
  Z : Ovl w0 wr 9 vS sv sl qs s1 s2
  ac : Off tv uv
  sz : w0.heap.size ≤ wr.heap.size
  chg : Chg W0 wr S
section
variable {W0 w0 wr : World} {S : Nat → Prop} {vA vC vN vS tv uv nv sv : Value} {tl ul nl sl qa qc qn qs : Nat} {a1 a2 c1 c2 n1 n2 s1 s2 : Value}
theorem St4.start (h : St4 W0 w0 S vA vC vN vS tl ul nl sl a1 c1 n1 s1) : Gr4 W0 w0 w0 S vA vC vN vS vA vC vN vS tl ul nl sl 0 0 0 0 a1 a2 c1 c2 n1 n2 s1 s2 := by
  obtain ⟨_, hA⟩ := h.A
  obtain ⟨_, hC⟩ := h.C
  obtain ⟨_, hN⟩ := h.N
  obtain ⟨_, hS⟩ := h.Z
  exact ⟨.start hA, .start hC, .start hN, .start hS, h.ac, Nat.le_refl _, h.chg⟩
theorem chg_app {w0 wa w' : World} {u u' : Value} (fa : Below w0.heap.size w0 wa) (ha : App wa w' u u') : Chg w0 w' (fun b => u.ownBlock = some b) := Chg.pre fa (Chg.of_app ha)
theorem grow_chg {e : TypeId} {v u : Value} {n r : Nat} {x y : Value} {w' : World} (hc : Chg W0 wr S) (h : Ovl w0 wr e v u n r x y) (hz : W0.heap.size ≤ w0.heap.size) (hS : ∀ k, v.ownBlock = some k → S k) (k : Chg wr w' (fun b => u.ownBlock = some b)) : Chg W0 w' S :=
  hc.trans k (fun b hb e => by
    rcases h.blk b e with q | q
    · exact hS b q
    · omega)
theorem Gr4.stepA (h : Gr4 W0 w0 wr S vA vC vN vS tv uv nv sv tl ul nl sl qa qc qn qs a1 a2 c1 c2 n1 n2 s1 s2) (k : St4 W0 w0 S vA vC vN vS tl ul nl sl a1 c1 n1 s1) {wa w' : World} {tv' : Value} (fa : Below wr.heap.size wr wa)
    (ho : Own w' 0 5 1 tv' (tl + qa + 1) (fun j => if j < tl then a1 else a2)) (ha : App wa w' tv tv') (hm : tv'.ownBlock = tv.ownBlock ∨ Below wa.heap.size wa w') : Gr4 W0 w0 w' S vA vC vN vS tv' uv nv sv tl ul nl sl (qa + 1) qc qn qs a1 a2 c1 c2 n1 n2 s1 s2 := by
  obtain ⟨_, hA⟩ := k.A
  obtain ⟨_, hC⟩ := k.C
  obtain ⟨_, hN⟩ := k.N
  obtain ⟨_, hS⟩ := k.Z
  have c := chg_app fa ha
  exact ⟨h.A.next h.sz fa hA ho ha hm, h.C.keep hC c h.ac.symm (h.A.off k.ac (fun z hz => (hC.lt z hz).2)).symm, h.N.keep hN c (apart_tyW h.N.own h.A.own (by decide)) (h.A.off k.an (fun z hz => (hN.lt z hz).2)).symm, h.Z.keep hS c (apart_tyW h.Z.own h.A.own (by decide)) (h.A.off k.ax (fun z hz => (hS.lt z hz).2)).symm, ha.off (h.C.own.kept fa) h.ac, Nat.le_trans h.sz c.size, grow_chg h.chg h.A k.chg.size k.sA c⟩
theorem Gr4.stepC (h : Gr4 W0 w0 wr S vA vC vN vS tv uv nv sv tl ul nl sl qa qc qn qs a1 a2 c1 c2 n1 n2 s1 s2) (k : St4 W0 w0 S vA vC vN vS tl ul nl sl a1 c1 n1 s1) {wa w' : World} {uv' : Value} (fa : Below wr.heap.size wr wa)
    (ho : Own w' 0 5 1 uv' (ul + qc + 1) (fun j => if j < ul then c1 else c2)) (ha : App wa w' uv uv') (hm : uv'.ownBlock = uv.ownBlock ∨ Below wa.heap.size wa w') : Gr4 W0 w0 w' S vA vC vN vS tv uv' nv sv tl ul nl sl qa (qc + 1) qn qs a1 a2 c1 c2 n1 n2 s1 s2 := by
  obtain ⟨_, hA⟩ := k.A
  obtain ⟨_, hC⟩ := k.C
  obtain ⟨_, hN⟩ := k.N
  obtain ⟨_, hS⟩ := k.Z
  have c := chg_app fa ha
  exact ⟨h.A.keep hA c h.ac (h.C.off k.ac.symm (fun z hz => (hA.lt z hz).2)).symm, h.C.next h.sz fa hC ho ha hm, h.N.keep hN c (apart_tyW h.N.own h.C.own (by decide)) (h.C.off k.cn (fun z hz => (hN.lt z hz).2)).symm, h.Z.keep hS c (apart_tyW h.Z.own h.C.own (by decide)) (h.C.off k.cs (fun z hz => (hS.lt z hz).2)).symm, (ha.off (h.A.own.kept fa) h.ac.symm).symm, Nat.le_trans h.sz c.size, grow_chg h.chg h.C k.chg.size k.sC c⟩
theorem Gr4.stepN (h : Gr4 W0 w0 wr S vA vC vN vS tv uv nv sv tl ul nl sl qa qc qn qs a1 a2 c1 c2 n1 n2 s1 s2) (k : St4 W0 w0 S vA vC vN vS tl ul nl sl a1 c1 n1 s1) {wa w' : World} {nv' : Value} (fa : Below wr.heap.size wr wa)
    (ho : Own w' 0 3 1 nv' (nl + qn + 1) (fun j => if j < nl then n1 else n2)) (ha : App wa w' nv nv') (hm : nv'.ownBlock = nv.ownBlock ∨ Below wa.heap.size wa w') : Gr4 W0 w0 w' S vA vC vN vS tv uv nv' sv tl ul nl sl qa qc (qn + 1) qs a1 a2 c1 c2 n1 n2 s1 s2 := by
  obtain ⟨_, hA⟩ := k.A
  obtain ⟨_, hC⟩ := k.C
  obtain ⟨_, hN⟩ := k.N
  obtain ⟨_, hS⟩ := k.Z
  have c := chg_app fa ha
  exact ⟨h.A.keep hA c (apart_tyW h.A.own h.N.own (by decide)) (h.N.off k.an.symm (fun z hz => (hA.lt z hz).2)).symm, h.C.keep hC c (apart_tyW h.C.own h.N.own (by decide)) (h.N.off k.cn.symm (fun z hz => (hC.lt z hz).2)).symm, h.N.next h.sz fa hN ho ha hm, h.Z.keep hS c (apart_tyW h.Z.own h.N.own (by decide)) (h.N.off k.ns (fun z hz => (hS.lt z hz).2)).symm, h.ac, Nat.le_trans h.sz c.size, grow_chg h.chg h.N k.chg.size k.sN c⟩
theorem Gr4.stepS (h : Gr4 W0 w0 wr S vA vC vN vS tv uv nv sv tl ul nl sl qa qc qn qs a1 a2 c1 c2 n1 n2 s1 s2) (k : St4 W0 w0 S vA vC vN vS tl ul nl sl a1 c1 n1 s1) {wa w' : World} {sv' : Value} (fa : Below wr.heap.size wr wa)
    (ho : Own w' 0 9 1 sv' (sl + qs + 1) (fun j => if j < sl then s1 else s2)) (ha : App wa w' sv sv') (hm : sv'.ownBlock = sv.ownBlock ∨ Below wa.heap.size wa w') : Gr4 W0 w0 w' S vA vC vN vS tv uv nv sv' tl ul nl sl qa qc qn (qs + 1) a1 a2 c1 c2 n1 n2 s1 s2 := by
  obtain ⟨_, hA⟩ := k.A
  obtain ⟨_, hC⟩ := k.C
  obtain ⟨_, hN⟩ := k.N
  obtain ⟨_, hS⟩ := k.Z
  have c := chg_app fa ha
  exact ⟨h.A.keep hA c (apart_tyW h.A.own h.Z.own (by decide)) (h.Z.off k.ax.symm (fun z hz => (hA.lt z hz).2)).symm, h.C.keep hC c (apart_tyW h.C.own h.Z.own (by decide)) (h.Z.off k.cs.symm (fun z hz => (hC.lt z hz).2)).symm, h.N.keep hN c (apart_tyW h.N.own h.Z.own (by decide)) (h.Z.off k.ns.symm (fun z hz => (hN.lt z hz).2)).symm, h.Z.next h.sz fa hS ho ha hm, h.ac, Nat.le_trans h.sz c.size, grow_chg h.chg h.Z k.chg.size k.sS c⟩
end
end Go.Proofs.YtemmghneohnigabDoor
