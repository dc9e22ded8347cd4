import Derived.Test.YtaalinlggjimcaaGY
namespace Go.Proofs.Ytaalinlggjimcaa
open Go.RowKit
/-! over: a list written full, and appended to. -/
theorem wpList_appX {P : Program} (w : World) {ops : Array Oper} {rest : List Oper} {o : Oper} {a : Act} {Q : Exit → Act → World → Prop}
    (hg : o.guard = none) (s x : Operand) (t : TypeId) (hop : o.op = Op.call { callee := Callee.builtin Builtin.append, args := #[s, x], argTypes := #[t, t] })
    (base : Nat) (e : TypeId) (z : Value) (sz bytes : Nat) (h1 : P.underlying t = some (.slice e)) (hinfo : (P.info? e).map (fun i => (i.zero, i.size, i.bytes)) = some (some z, sz, bytes)) (h6 : z.cells.size = sz) (h7 : 0 < sz)
    (v : Value) (n : Nat) (cs : Nat → Value) (hs : a.eval s = v) (hown : Own w base e sz v n cs)
    (g m c : Nat) (hx : a.eval x = .slice (some ⟨g, 0, none⟩) m c) (hc : ∀ j, j < m * sz → w.cell? ⟨g, j, none⟩ = some (cs (n * sz + j))) (h1c : ∀ j, j < m * sz → (cs (n * sz + j)).oneCell' = true)
    (hm : 0 < m) (b1 : n + m ≤ maxLen) (b2 : (n + m) * bytes ≤ 140737488355328) (hb : base ≤ w.heap.size)
    (hK : ∀ v' w', Own w' base e sz v' (n + m) cs → App w w' v v' → (v'.ownBlock = v.ownBlock ∨ Below w.heap.size w w') → wpList P ops Q rest (a.put o.dst v') w') : wpList P ops Q (o :: rest) a w := by
  obtain ⟨i, hi, hz0, hz1, hz2⟩ := info_parts hinfo
  have hn : ((List.range (m * sz)).map (fun j => cs (n * sz + j))).length = m * sz := by simp
  have hc' : ∀ j u, ((List.range (m * sz)).map (fun j => cs (n * sz + j)))[j]? = some u → w.cell? ((⟨g, 0, none⟩ : Addr).add j) = some u := by
    intro j u hu
    rw [add_lit0]
    by_cases hj : j < m * sz
    · simp [hj] at hu; rw [hc j hj, hu]
    · simp [hj] at hu
  have h1c' : ∀ u ∈ (List.range (m * sz)).map (fun j => cs (n * sz + j)), u.oneCell' = true := by
    intro u hu
    obtain ⟨j, hj, rfl⟩ := List.mem_map.1 hu
    exact h1c j (List.mem_range.1 hj)
  rcases hown.2 with ⟨rfl, rfl⟩ | ⟨k, cap, cur, rfl, hbg, hgg, hnc, hcm, hcs, htake⟩
  · refine wpList_append_grows w hg s x t hop e i z sz bytes h1 hi hz0 hz1 hz2 h6 h7 none 0 0 [] hs (fun _ => ⟨rfl, rfl⟩) (by simp) (fun b hb => by cases hb) ⟨g, 0, none⟩ m c _ hx hn hc' h1c' (by omega) b1 b2 ?_
    intro v' w' ho hgr
    refine hK v' w' ?_ ⟨hgr, fun k hk => .inr (World.ownsRow.lt ho k hk).1⟩ (.inr ⟨hgr.os, hgr.tape, hgr.output, hgr.size, fun k hk => hgr.block k hk (by simp)⟩)
    have hx' := Own.weaken (cs := cs) (base' := base) (n := 0 + m) (by unfold Own; rw [← news_len 0 m sz cs]; simpa using ho) hb
    exact hx'
  · by_cases hroom : n + m ≤ cap
    · refine wpList_plain hg fun K hK' => ?_
      obtain ⟨w', hr, ho, hgr⟩ := run_append_fits (P := P) w base t o.type e i sz h1 hi hz1 k n cap _ hown ⟨g, 0, none⟩ m c _ hn hc' h1c' hroom
      unfold Oper.wp execOp
      simp only [hop, resolve, invoke, builtin, Sem.run_bind, Sem.run_pure, Result.andThen_ok, List.map_toArray, List.map_cons, List.map_nil, hs, hx, hr]
      exact hK' _ _ (hK _ w' (by unfold Own; rw [← news_len n m sz cs]; exact ho) ⟨hgr, fun k hk => .inl hk⟩ (.inl rfl))
    · refine wpList_append_grows w hg s x t hop e i z sz bytes h1 hi hz0 hz1 hz2 h6 h7 (some ⟨k, 0, none⟩) n cap ((List.range (n * sz)).map cs) hs (fun h => by cases h) hown.1 (fun b hb => by cases hb; exact World.ownsRow.cells hown (g := k) rfl) ⟨g, 0, none⟩ m c _ hx hn hc' h1c' (by omega) b1 b2 ?_
      intro v' w' ho hgr
      refine hK v' w' ?_ ⟨⟨hgr.os, hgr.tape, hgr.output, hgr.size, fun k hk _ => hgr.block k hk (by simp)⟩, fun k hk => .inr (World.ownsRow.lt ho k hk).1⟩ (.inr ⟨hgr.os, hgr.tape, hgr.output, hgr.size, fun k hk => hgr.block k hk (by simp)⟩)
      exact Own.weaken (cs := cs) (base' := base) (n := n + m) (by unfold Own; rw [← news_len n m sz cs]; exact ho) hb

theorem Own.frz {w : World} {base g cap n : Nat} {e : TypeId} {sz : Nat} {cs : Nat → Value} (h : Own w base e sz (.slice (some ⟨g, 0, none⟩) n cap) n cs) (j : Nat) : w.frozen? ⟨g, j, none⟩ = false := by
  rcases h.2 with ⟨e, _⟩ | ⟨g', cap', cur, e, _, hg, _⟩
  · cases e
  · cases e
    simp [World.frozen?, hg]
/-- what the list holds, whichever block the longer one lies in -/
def Ov (w wr : World) (v u : Value) (n r : Nat) (mark : Int) : Prop := Own wr 0 3 1 u (n + r) (fun j => .int .i64 (if j < n then mark else mark - 1000)) ∧ (u.ownBlock = v.ownBlock ∨ ((∀ z, u.ownBlock = some z → w.heap.size ≤ z) ∧ Rd wr v 1 n (fun _ => .int .i64 mark))) ∧ Chg w wr (fun z => v.ownBlock = some z)
end Go.Proofs.Ytaalinlggjimcaa
namespace Go.Proofs.Ytaalinlggjimcaa
open Go.RowKit
/-! over: its own list reads one number alone, wherever the longer one lies. -/
theorem ov_rd {w wr : World} {v u : Value} {n m : Nat} {cs0 cs : Nat → Value} (h : Own w 0 3 1 v n cs0) (ho : Own wr 0 3 1 u m cs) (e : u.ownBlock = v.ownBlock) (hm : n ≤ m) : Rd wr v 1 n cs := by
  rcases h.list with ⟨rfl, rfl⟩ | ⟨g, cap, rfl, eg, hr⟩
  · exact (own_nil wr 0 3 1 cs).rd
  · refine ⟨_, cap, rfl, hr.le, hr.top, fun h0 => ⟨g, 0, rfl, fun j hj => ?_⟩⟩
    rcases ho.list with ⟨rfl, rfl⟩ | ⟨g', cap', rfl, eg', hr'⟩
    · rw [eg] at e
      simp [Value.ownBlock] at e
    · rw [eg, eg'] at e
      injection e with e
      subst e
      obtain ⟨b, off, e2, hc⟩ := hr'.one (by omega)
      injection e2 with e2
      injection e2 with e3 e4
      subst e3 e4
      exact hc j (by omega)
theorem Rd.chg {w w' : World} {T : Nat → Prop} (c : Chg w w' T) {v : Value} {sz n : Nat} {cs : Nat → Value} (h : Rd w v sz n cs) (hne : ∀ b, v.ownBlock = some b → ¬ T b) : Rd w' v sz n cs := by
  obtain ⟨ao, cap, rfl, r⟩ := h
  exact ⟨ao, cap, rfl, r.chg c (fun b off e => hne b (by rw [e]; rfl))⟩
theorem Ov.next {w wr w1 w' : World} {v u u' : Value} {n r : Nat} {mark : Int} {cs0 : Nat → Value} (h0 : Own w 0 3 1 v n cs0) (h : Ov w wr v u n r mark) (f : Below wr.heap.size wr w1) (ha : App w1 w' u u') (hx : u'.ownBlock = u.ownBlock ∨ Below w1.heap.size w1 w') (ho : Own w' 0 3 1 u' (n + (r + 1)) (fun j => .int .i64 (if j < n then mark else mark - 1000))) : Ov w w' v u' n (r + 1) mark := by
  obtain ⟨hu, hc, hg⟩ := h
  have hs := hg.size
  have hf := f.size
  refine ⟨ho, ?_, (hg.post f).trans (Chg.of_app ha) (fun x hx e => ?_)⟩
  · rcases hc with hc | ⟨hn, hr⟩
    · by_cases e : u'.ownBlock = u.ownBlock
      · exact .inl (e.trans hc)
      · rcases hx with hx | hx
        · exact absurd hx e
        · refine .inr ⟨fun z hz => ?_, ((((ov_rd h0 hu hc (by omega)).congr (fun j hj => ?_)).fresh f).fresh hx)⟩
          · rcases ha.blk z hz with e2 | e2
            · exact absurd (hz.trans e2.symm) e
            · omega
          · rw [if_pos (by omega)]
    · refine .inr ⟨fun z hz => ?_, (hr.fresh f).chg (Chg.of_app ha) (fun b hb e => ?_)⟩
      · rcases ha.blk z hz with e2 | e2
        · exact hn z e2
        · omega
      · have := hn b e
        have := (h0.lt b hb).2
        omega
  · rcases hc with hc | ⟨hn, _⟩
    · rw [← hc]; exact e
    · have := hn x e
      omega
/-- the last of the longer one is written too -/
theorem Ov.last {w wr : World} {v : Value} {n g cap : Nat} {mark y : Int} {cs0 : Nat → Value} (h0 : Own w 0 3 1 v n cs0) (h : Ov w wr v (.slice (some ⟨g, 0, none⟩) (n + 64) cap) n 64 mark) : Rd (wr.setCell ⟨g, n + 63, none⟩ (.int .i64 y)) v 1 n (fun _ => .int .i64 mark) ∧ Chg w (wr.setCell ⟨g, n + 63, none⟩ (.int .i64 y)) (fun z => v.ownBlock = some z) := by
  obtain ⟨hu, hc, hg⟩ := h
  refine ⟨?_, hg.trans (Chg.of_set wr g (n + 63) _) (fun x hx e => ?_)⟩
  · rcases hc with hc | ⟨hn, hr⟩
    · refine (ov_rd h0 (hu.put (n + 63) (.int .i64 y)) hc (by omega)).congr (fun j hj => ?_)
      rw [if_neg (by omega), if_pos (by omega)]
    · refine hr.chg (Chg.of_set wr g (n + 63) _) (fun b hb e => ?_)
      have := hn g rfl
      have := (h0.lt b hb).2
      omega
  · rcases hc with hc | ⟨hn, _⟩
    · rw [← hc, e]; rfl
    · have := hn g rfl
      omega
theorem ov_begin {w wr : World} {v : Value} {n : Nat} {mark : Int} {cs : Nat → Value} (h : Own wr 0 3 1 v n (fun j => if j < n then .int .i64 mark else cs j)) (c : Chg w wr (fun z => v.ownBlock = some z)) : Ov w wr v v n 0 mark :=
  ⟨h.congr (fun j hj => by rw [if_pos (by omega), if_pos (by omega)]), .inl rfl, c⟩
set_option maxRecDepth 20000 in
set_option maxHeartbeats 1600000 in
theorem over_any {w : World} {v : Value} {n : Nat} {cs : Nat → Value} (h : Own w 0 3 1 v n cs) (hn : n ≤ 2147483647) {mark : Int} (m1 : -1099511627776 ≤ mark) (m2 : mark ≤ 1099511627776) :
    Calls Try.prog 31 #[v, .int .i64 mark] w fun e w' => e = .returned (.tuple #[]) ∧ Rd w' v 1 n (fun _ => .int .i64 mark) ∧ Chg w w' (fun z => v.ownBlock = some z) := by
  have h0 := hidd h
  obtain ⟨ao, cap, e, hr0⟩ := h.rd
  subst e
  clear hr0
  go_enter Try.func31, Try.ntmps31
  go_wp2
  go_loopw [4] (fun i wr => ∃ k : Nat, k ≤ n ∧ i = .int .i64 k ∧ Hid (Own wr 0 3 1 (.slice ao n cap) n (fun j => if j < k then .int .i64 mark else cs j)) ∧ Chg w wr (fun z => (Value.slice ao n cap).ownBlock = some z)) (fun i _ => n - (intOf i).toNat)
  case atStart => exact ⟨0, by omega, rfl, h.congr (fun j hj => by rw [if_neg (by omega)]), Chg.refl _ _⟩
  case round =>
    clear h
    obtain ⟨k, hk, rfl, HO, hg⟩ := hrel
    by_cases hlt : k < n
    · rcases HO.out.list with ⟨e1, e2⟩ | ⟨g, cap', e1, e2, hr⟩
      · omega
      · injection e1 with e1 e3 e4
        subst e1 e4
        clear e2
        obtain ⟨b1, o1, e5, h1⟩ := hr.one (by omega)
        injection e5 with e5
        injection e5 with e6 e7
        subst e6 e7
        have c0 := h1 k hlt
        have fz := HO.out.frz k
        have k0 : (0 : Int) ≤ (k : Int) := by omega
        have k1 : (k : Int) < (n : Int) := by omega
        rw [Nat.zero_add] at c0
        clear h1 hr
        go_wp2
        go_roundw
        case rel =>
          refine ⟨k + 1, by omega, by go_num, (HO.out.put k (.int .i64 mark)).congr (fun j hj => ?_), hg.trans (Chg.of_set wr g k _) (fun x hx e => by rw [e]; rfl)⟩
          by_cases e : j = k
          · rw [if_pos e, if_pos (by omega)]
          · rw [if_neg e]
            by_cases e2 : j < k
            · rw [if_pos e2, if_pos (by omega)]
            · rw [if_neg e2, if_neg (by omega)]
        case measure => simp [intOf]; omega
    · obtain rfl : n = k := by omega
      have HB := hidd (ov_begin HO.out hg)
      clear HO hg
      go_wp2
      go_loopw [5, 6] (fun u i wr => ∃ r : Nat, r ≤ 64 ∧ i = .int .i64 r ∧ Hid (Ov w wr (.slice ao n cap) u n r mark)) (fun _ i _ => 64 - (intOf i).toNat)
      case atStart => exact ⟨0, by omega, rfl, HB.out⟩
      case round =>
        clear HB
        obtain ⟨r, hr, rfl, HV⟩ := hrel
        by_cases hlt : r < 64
        · have k1 : (r : Int) < 64 := by omega
          have HX : Hid (∀ (w0 : World) (t : TypeId) (j : Nat), j < 1 * 1 → (w0.alloc (.cells #[.int .i64 (mark - 1000)] t)).cell? ⟨w0.heap.size, j, none⟩ = some ((fun j => Value.int .i64 (if j < n then mark else mark - 1000)) ((n + r) * 1 + j))) := fun w0 t j hj => by
            obtain rfl : j = 0 := by omega
            rw [new_cell]
            simp
            omega
          go_wp2_with (at_builtin; refine wpList_appX _ rfl _ _ 22 rfl 0 3 (.int .i64 0) 1 8 Try.underlying22 infoI rfl (by decide) _ (n + r) (fun j => .int .i64 (if j < n then mark else mark - 1000)) rfl (HV.out.1.kept (fresh_alloc _ _)) _ 1 1 rfl (HX.out _ _) (fun _ _ => rfl) (by decide) (by unfold maxLen; omega) (by omega) (Nat.zero_le _) ?_)
          intro u' w1 hown' happ hx
          have HN := hidd (HV.out.next h0.out (fresh_alloc _ _) happ (by simpa using hx) hown')
          clear happ hx hown' HV
          go_wp2
          go_roundw
          case rel => exact ⟨r + 1, by omega, by go_num, HN.out⟩
          case measure => simp [intOf]; omega
        · obtain rfl : r = 64 := by omega
          rcases HV.out.1.list with ⟨e1, e2⟩ | ⟨g, cap', e1, e2, hr9⟩
          · omega
          · subst e1
            clear e2
            obtain ⟨b1, o1, e5, h1⟩ := hr9.one (by omega)
            injection e5 with e5
            injection e5 with e6 e7
            subst e6 e7
            have c0 := h1 (n + 63) (by omega)
            have fz := HV.out.1.frz (n + 63)
            rw [Nat.zero_add] at c0
            clear h1 hr9
            have HL := hidd (HV.out.last (y := mark - 2000) h0.out)
            clear HV
            go_wp2
            go_end0
            exact ⟨rfl, HL.out.1, HL.out.2⟩
end Go.Proofs.Ytaalinlggjimcaa
namespace Go.Proofs.Ytaalinlggjimcaa
open Go.RowKit
/-! Keep of a list of the call's own: with room behind it or without. -/
section
variable {w w' : World} {X : Wx} {lab : Nat → Nat} {L : Nat → List Nd} {N : Nat → Nat} {cnt : Nat → Nat} {num : Nat → Int} {y : Ry} {mine : Nat → Nat}
theorem ps_keepq (h : PS w X lab L N cnt num) (low : ∀ z, lab z ≠ 0 → z < w.heap.size) {k : Nat} (hk : k < 2) (hN : N k ≤ 4611686018427387904) {tO : Option Addr} {T cap : Nat} {t : Nat → Int} (ht : RdA w tO 1 T cap (fun i => .int .i64 (t i))) (hfit : ∀ i, i < T → fits (t i)) {bb boff m bcap : Nat} {g : Nat → Int} (hb : RdA w (some ⟨bb, boff, none⟩) 1 m bcap (fun i => .int .i64 (g i))) (ob : lab bb = 0) (hcnt : ∀ b, cnt b ≤ 1152921504606846976) {n : Nat} (hn : n = T / X.S) {q b0 o0 : Nat} (hl : Long (X.c k).C (L k) (pcL t X.S n) q b0 o0) (hbq : q < bcap) :
    Calls Try.prog 12 #[.pointer (some ⟨(X.c k).C, 0, none⟩), .slice tO T cap, .slice (some ⟨bb, boff, none⟩) m bcap] w (KeepQ w X lab L N cnt num k (pcL t X.S n) g (fun i => (g i).toNat) m n q) := by
  obtain ⟨c1, c2, c3⟩ := h.cc k hk
  obtain ⟨l1, l2, l3⟩ := h.lp
  have hp := h.pool
  rw [← c1, ← c3] at hp
  have hT : T ≤ 9223372036854775807 := by have := ht.le; have := ht.top; unfold maxLen at this; omega
  have hm : m ≤ 9223372036854775807 := by have := hb.le; have := hb.top; unfold maxLen at this; omega
  have hw := (h.ca k hk).well
  rw [← c2] at hn hl
  have hqn : q ≤ n := by have := hl.le; rw [pcL_len] at this; exact this
  by_cases h1 : m < n
  · refine (keep_few (h.ca k hk) tO _ hT hm hn (.inl h1)).mono ?_
    rintro e w' ⟨rfl, rfl⟩
    exact .inl ⟨rfl, .inl h1, Below.refl _ _⟩
  by_cases h2 : ∃ i, i < n ∧ cntI cnt X.B (g i) = 0
  · by_cases h3 : (X.c k).B < n
    · refine (keep_few (h.ca k hk) tO _ hT hm hn (.inr h3)).mono ?_
      rintro e w' ⟨rfl, rfl⟩
      exact .inl ⟨rfl, .inr (.inl h2), Below.refl _ _⟩
    · refine (keep_free (h.ca k hk) hp tO hT hb hn (by omega) (by omega) (by rw [c3]; exact h2)).mono ?_
      rintro e w' ⟨rfl, rfl⟩
      exact .inl ⟨rfl, .inr (.inl h2), Below.refl _ _⟩
  have hg : ∀ i, i < n → g i = ((g i).toNat : Int) ∧ (g i).toNat < (X.c k).B ∧ cnt (g i).toNat ≠ 0 := fun i hi => by
    have : cntI cnt X.B (g i) ≠ 0 := fun e => h2 ⟨i, hi, e⟩
    unfold cntI at this
    by_cases e : 0 ≤ g i ∧ g i < X.B
    · rw [if_pos e] at this
      exact ⟨by omega, by rw [c3]; omega, this⟩
    · rw [if_neg e] at this
      exact absurd rfl this
  have hnob : Nobodys (L k) (fun i => (g (q + i)).toNat) (n - q) ↔ ¬ ∃ i, q ≤ i ∧ i < n ∧ ((∃ z ∈ L k, (z.blk : Int) = g i) ∨ ∃ j, i < j ∧ j < n ∧ g j = g i) := by
    constructor
    · rintro ⟨a1, a2⟩ ⟨i, i1, i2, i3⟩
      rcases i3 with ⟨z, hz, e⟩ | ⟨j, j1, j2, e⟩
      · refine a1 (i - q) (by omega) z hz ?_
        show z.blk = (g (q + (i - q))).toNat
        rw [show q + (i - q) = i by omega]
        have := (hg i i2).1
        omega
      · refine a2 (i - q) (j - q) (by omega) (by omega) ?_
        show (g (q + (i - q))).toNat = (g (q + (j - q))).toNat
        rw [show q + (i - q) = i by omega, show q + (j - q) = j by omega, e]
    · intro hno
      refine ⟨fun i hi z hz e => hno ⟨q + i, by omega, by omega, .inl ⟨z, hz, ?_⟩⟩, fun i j h1 h2 e => hno ⟨q + i, by omega, by omega, .inr ⟨q + j, by omega, by omega, ?_⟩⟩⟩
      · have e : z.blk = (g (q + i)).toNat := e
        rw [(hg (q + i) (by omega)).1, e]
      · have e : (g (q + i)).toNat = (g (q + j)).toNat := e
        rw [(hg (q + i) (by omega)).1, (hg (q + j) (by omega)).1, e]
  by_cases h4 : Nobodys (L k) (fun i => (g (q + i)).toNat) (n - q)
  · have hnB : n ≤ (X.c k).B := few_blocks hw (pcL_len t _ n) hl (gn := fun i => (g i).toNat) (fun i hi => (hg i hi).2.1) h4
    have hnb : ¬ BadK (L k) cnt X.B g m n q := fun e => by
      rcases e with e | e | e
      · exact h1 e
      · exact h2 e
      · exact (hnob.1 h4) e
    refine (keep_okz (h.ca k hk) hN hp (by show ¬ lab (X.c k).pg = 3 + k; rw [c1]; omega) (by show ¬ lab X.cb = 3 + k; omega) (by show ¬ lab X.nb = 3 + k; omega) ht hfit hb (by show ¬ lab bb = 3 + k; omega) (fun e => by rw [e] at ob; omega) hn (gn := fun i => (g i).toNat) (fun i hi => (hg i hi).1) (by omega) hnB (fun i hi => (hg i hi).2.1) (fun i hi => (hg i hi).2.2) (fun i hi => hcnt _) (fun k' b' o' hl' => ?_)).mono ?_
    · have := hl'.uniq hl
      subst this
      exact ⟨by omega, h4⟩
    · rintro e w' ⟨k', b', o', A', L', news, rfl, hl', hK⟩
      have := hl'.uniq hl
      subst this
      have hE := hK.ext
      have hP := hK.pool
      have hC := hK.cache
      rw [pcL_len] at hE hP
      rw [c1, c3] at hP
      rw [c2] at hE hC
      have hthis : ∀ z, relab lab w.heap.size A' (3 + k) z = 3 + k ↔ A' z := relab_this (A := fun z => lab z = 3 + k) (fun _ => Iff.rfl) hK.up hK.dn
      have hfe : (fun z => relab lab w.heap.size A' (3 + k) z = 3 + k) = A' := funext fun z => propext (hthis z)
      refine .inr ⟨rfl, hnb, relab lab w.heap.size A' (3 + k), L', news, hE, ?_, ⟨fun u h0 h1 => relab_other low h0 h1, fun z hz => relab_old hz, fun z hz => relab_low low hK.chg.size hC.low z hz⟩, hK.chg⟩
      refine h.step hk hK.chg (fun z e => e) (fun u h0 h1 h2 => relab_other low (by omega) h2) hP ?_
      rw [hfe]
      exact hC
  · have hbad : BadK (L k) cnt X.B g m n q := .inr (.inr (Classical.not_not.1 (fun e => h4 (hnob.2 e))))
    by_cases h3 : (X.c k).B < n
    · refine (keep_few (h.ca k hk) tO _ hT hm hn (.inr h3)).mono ?_
      rintro e w' ⟨rfl, rfl⟩
      exact .inl ⟨rfl, hbad, Below.refl _ _⟩
    · refine (keep_takenz (h.ca k hk) hp ht hfit hb hn (gn := fun i => (g i).toNat) (fun i hi => (hg i hi).1) (by omega) (by omega) (fun i hi => (hg i hi).2.1) (fun i hi => (hg i hi).2.2) hl h4).mono ?_
      rintro e w' ⟨rfl, hf⟩
      exact .inl ⟨rfl, hbad, hf⟩
theorem ps_keepO (h : PS w X lab L N cnt num) (low : ∀ z, lab z ≠ 0 → z < w.heap.size) {k : Nat} (hk : k < 2) (hN : N k ≤ 4611686018427387904) {tO : Option Addr} {T cap : Nat} {t : Nat → Int} (ht : RdA w tO 1 T cap (fun i => .int .i64 (t i))) (hfit : ∀ i, i < T → fits (t i)) {base : Nat} {v : Value} {m : Nat} {g : Nat → Int} (ho : Own w base 3 1 v m (fun i => .int .i64 (g i))) (ob : ∀ z, v.ownBlock = some z → lab z = 0) (hcnt : ∀ b, cnt b ≤ 1152921504606846976) {n : Nat} (hn : n = T / X.S) {q b0 o0 : Nat} (hl : Long (X.c k).C (L k) (pcL t X.S n) q b0 o0) :
    Calls Try.prog 12 #[.pointer (some ⟨(X.c k).C, 0, none⟩), .slice tO T cap, v] w (KeepQ w X lab L N cnt num k (pcL t X.S n) g (fun i => (g i).toNat) m n q) := by
  have key : ∀ {bo : Option Addr} {bcap : Nat}, RdA w bo 1 m bcap (fun i => .int .i64 (g i)) → bcap ≤ q → (bo = none → bcap = 0) → (∀ a, bo = some a → ∃ bb, a = ⟨bb, 0, none⟩) → Calls Try.prog 12 #[.pointer (some ⟨(X.c k).C, 0, none⟩), .slice tO T cap, .slice bo m bcap] w (KeepQ w X lab L N cnt num k (pcL t X.S n) g (fun i => (g i).toNat) m n q) := by
    intro bo bcap hb hq hbo hbp
    obtain ⟨c1, c2, c3⟩ := h.cc k hk
    obtain ⟨l1, l2, l3⟩ := h.lp
    have hp := h.pool
    rw [← c1, ← c3] at hp
    have hT : T ≤ 9223372036854775807 := by have := ht.le; have := ht.top; unfold maxLen at this; omega
    have hm : m ≤ 9223372036854775807 := by have := hb.le; have := hb.top; unfold maxLen at this; omega
    have hw := (h.ca k hk).well
    have hle := hb.le
    rw [← c2] at hn hl
    have hqn : q ≤ n := by have := hl.le; rw [pcL_len] at this; exact this
    by_cases h1 : m < n
    · refine (keep_few (h.ca k hk) tO _ hT hm hn (.inl h1)).mono ?_
      rintro e w' ⟨rfl, rfl⟩
      exact .inl ⟨rfl, .inl h1, Below.refl _ _⟩
    obtain rfl : q = n := by omega
    obtain rfl : q = m := by omega
    by_cases h2 : ∃ i, i < q ∧ cntI cnt X.B (g i) = 0
    · by_cases h3 : (X.c k).B < q
      · refine (keep_few (h.ca k hk) tO _ hT hm hn (.inr h3)).mono ?_
        rintro e w' ⟨rfl, rfl⟩
        exact .inl ⟨rfl, .inr (.inl h2), Below.refl _ _⟩
      · refine (keep_free (h.ca k hk) hp tO hT hb hn (by omega) (by omega) (by rw [c3]; exact h2)).mono ?_
        rintro e w' ⟨rfl, rfl⟩
        exact .inl ⟨rfl, .inr (.inl h2), Below.refl _ _⟩
    have hg : ∀ i, i < q → g i = ((g i).toNat : Int) ∧ (g i).toNat < (X.c k).B ∧ cnt (g i).toNat ≠ 0 := fun i hi => by
      have : cntI cnt X.B (g i) ≠ 0 := fun e => h2 ⟨i, hi, e⟩
      unfold cntI at this
      by_cases e : 0 ≤ g i ∧ g i < X.B
      · rw [if_pos e] at this
        exact ⟨by omega, by rw [c3]; omega, this⟩
      · rw [if_neg e] at this
        exact absurd rfl this
    have h4 : Nobodys (L k) (fun i => (g (q + i)).toNat) (q - q) := ⟨fun i hi => absurd hi (by omega), fun i j h1 h2 => absurd h2 (by omega)⟩
    have hnB : q ≤ (X.c k).B := few_blocks hw (pcL_len t _ q) hl (gn := fun i => (g i).toNat) (fun i hi => (hg i hi).2.1) h4
    have hnb : ¬ BadK (L k) cnt X.B g q q q := fun e => by
      rcases e with e | e | ⟨i, i1, i2, _⟩
      · exact h1 e
      · exact h2 e
      · omega
    refine (keep_known (h.ca k hk) hN hp ht hfit (gn := fun i => (g i).toNat) (hb.congr (fun j hj => by rw [← (hg j (by omega)).1])) hbo hbp hn (Nat.le_refl _) hnB (fun i hi => (hg i hi).2.1) (fun i hi => (hg i hi).2.2) (fun k' b' o' hl' => hl'.uniq hl)).mono ?_
    rintro e w' ⟨rfl, hC, hch⟩
    have hch : Chg w w' (fun z => lab z = 3 + k) := hch
    rw [c2] at hC
    refine .inr ⟨rfl, hnb, lab, L k, [], ⟨by simp, by simp, fun i hi => absurd hi (by omega)⟩, ?_, Lab.refl _ low hch.size, hch.imp (fun z _ e => .inl e)⟩
    rw [Nat.sub_self]
    exact h.step hk hch (fun z hz => .inl hz) (fun _ _ _ _ _ => Iff.rfl) (h.pool.chg hch (fun e => by omega) (fun e => by omega) (fun e => by omega)) hC
  rcases ho.list with ⟨rfl, rfl⟩ | ⟨g', bcap, rfl, eg, hr⟩
  · exact key ⟨Nat.le_refl _, Nat.zero_le _, fun h => absurd h (by omega)⟩ (Nat.zero_le _) (fun _ => rfl) (fun a e => by cases e)
  · by_cases hq : q < bcap
    · exact ps_keepq h low hk hN ht hfit hr (ob g' eg) hcnt hn hl hq
    · exact key hr (by omega) (fun e => by cases e) (fun a e => ⟨g', by injection e with e; exact e.symm⟩)
end
end Go.Proofs.Ytaalinlggjimcaa
namespace Go.Proofs.Ytaalinlggjimcaa
open Go.RowKit
/-! The lists that were answered, each written full of one number. -/
structure Mk (w : World) (lab : Nat → Nat) (v : Value) (m : Nat) (E : Nat → Value) (l : Nat → Nat) (K : Nat → Int) : Prop where
  own : Own w 0 22 1 v m E
  rd : ∀ i, i < m → Rd w (E i) 1 (l i) (fun _ => .int .i64 (K i))
  lv : ∀ z, v.ownBlock = some z → lab z = 0
  le : ∀ i, i < m → ∀ z, (E i).ownBlock = some z → lab z = 0 ∧ z < w.heap.size
  ne : ∀ i, i < m → Off v (E i)
theorem mk_nil (w : World) (lab : Nat → Nat) (E : Nat → Value) (l : Nat → Nat) (K : Nat → Int) : Mk w lab (.slice none 0 0) 0 E l K :=
  ⟨own_nil _ _ _ _ _, fun i hi => absurd hi (by omega), fun z hz => by simp [Value.ownBlock] at hz, fun i hi => absurd hi (by omega), fun i hi => absurd hi (by omega)⟩
section
variable {w w' : World} {lab lab' : Nat → Nat} {v : Value} {m : Nat} {E : Nat → Value} {l : Nat → Nat} {K : Nat → Int}
theorem Mk.chg (h : Mk w lab v m E l K) {T : Nat → Prop} (c : Chg w w' T) (h1 : ∀ z, v.ownBlock = some z → ¬ T z) (h2 : ∀ i, i < m → ∀ z, (E i).ownBlock = some z → ¬ T z) : Mk w' lab v m E l K :=
  ⟨h.own.chg c h1, fun i hi => (h.rd i hi).chg c (h2 i hi), h.lv, fun i hi z hz => ⟨(h.le i hi z hz).1, Nat.lt_of_lt_of_le (h.le i hi z hz).2 c.size⟩, h.ne⟩
theorem Mk.fresh (h : Mk w lab v m E l K) (f : Below w.heap.size w w') : Mk w' lab v m E l K :=
  h.chg (Chg.of_below (fun _ => False) f) (fun _ _ e => e) (fun _ _ _ _ e => e)
/-- a step changes what has a name alone -/
theorem Mk.step (h : Mk w lab v m E l K) (c : Chg w w' (fun z => lab z ≠ 0)) (hl : ∀ z, z < w.heap.size → lab' z = lab z) : Mk w' lab' v m E l K := by
  have k := h.chg c (fun z hz e => e (h.lv z hz)) (fun i hi z hz e => e (h.le i hi z hz).1)
  exact ⟨k.own, k.rd, fun z hz => by rw [hl z (h.own.lt z hz).2]; exact h.lv z hz, fun i hi z hz => ⟨by rw [hl z (h.le i hi z hz).2]; exact (h.le i hi z hz).1, (k.le i hi z hz).2⟩, k.ne⟩
/-- one more -/
theorem Mk.push (h : Mk w lab v m E l K) {w1 : World} {v' x : Value} {n : Nat} {y : Int} (f : Below w.heap.size w w1) (ha : App w1 w' v v') (hx : Rd w x 1 n (fun _ => .int .i64 y)) (hxl : ∀ z, x.ownBlock = some z → lab z = 0 ∧ z < w.heap.size) (hxo : Off v x) (low : ∀ z, lab z ≠ 0 → z < w.heap.size) (ho : Own w' 0 22 1 v' (m + 1) (fun j => if j = m then x else E j)) :
    Mk w' lab v' (m + 1) (fun j => if j = m then x else E j) (fun j => if j = m then n else l j) (fun j => if j = m then y else K j) := by
  have hf := f.size
  have c := (Chg.of_below (fun b => v.ownBlock = some b) f).trans (Chg.of_app ha) (fun _ _ t => t)
  have hs := c.size
  refine ⟨ho, fun i hi => ?_, fun z hz => ?_, fun i hi z hz => ?_, fun i hi z hz => ?_⟩
  · show Rd w' (if i = m then x else E i) 1 (if i = m then n else l i) (fun _ => .int .i64 (if i = m then y else K i))
    by_cases e : i = m
    · simp only [if_pos e]
      exact hx.chg c (fun b hb e2 => hxo b e2 hb)
    · simp only [if_neg e]
      exact (h.rd i (by omega)).chg c (fun b hb e2 => h.ne i (by omega) b e2 hb)
  · rcases ha.blk z hz with e | e
    · exact h.lv z e
    · exact Classical.not_not.1 (fun q => by have := low z q; omega)
  · by_cases e : i = m
    · simp only [if_pos e] at hz
      exact ⟨(hxl z hz).1, Nat.lt_of_lt_of_le (hxl z hz).2 hs⟩
    · simp only [if_neg e] at hz
      exact ⟨(h.le i (by omega) z hz).1, Nat.lt_of_lt_of_le (h.le i (by omega) z hz).2 hs⟩
  · by_cases e : i = m
    · simp only [if_pos e]
      intro e2
      rcases ha.blk z hz with e3 | e3
      · exact hxo z e3 e2
      · have := (hxl z e2).2
        omega
    · simp only [if_neg e]
      intro e2
      rcases ha.blk z hz with e3 | e3
      · exact h.ne i (by omega) z e3 e2
      · have := (h.le i (by omega) z e2).2
        omega
/-- what the law's last loops read: the i-th list, and two of its numbers -/
theorem Mk.cell (h : Mk w lab v m E l K) {i : Nat} (hi : i < m) : ∃ g cap, v = .slice (some ⟨g, 0, none⟩) m cap ∧ w.cell? ⟨g, i, none⟩ = some (E i) := by
  obtain ⟨ao, cap, e, hr⟩ := h.own.rd
  rcases h.own.2 with ⟨e1, e2⟩ | ⟨g, cap', cur, e1, _⟩
  · omega
  · rw [e1] at e
    injection e with e2 e3 e4
    subst e2 e4
    obtain ⟨b, off, e5, hc⟩ := hr.one (by omega)
    injection e5 with e5
    injection e5 with e6 e7
    subst e6 e7
    have := hc i hi
    rw [Nat.zero_add] at this
    exact ⟨_, _, e1, this⟩
theorem Mk.num (h : Mk w lab v m E l K) {i : Nat} (hi : i < m) : ∃ ao cap, E i = .slice ao (l i) cap ∧ l i ≤ cap ∧ (0 < l i → ∃ b off, ao = some ⟨b, off, none⟩ ∧ ∀ j, j < l i → w.cell? ⟨b, off + j, none⟩ = some (.int .i64 (K i))) := by
  obtain ⟨ao, cap, e, hr⟩ := h.rd i hi
  exact ⟨ao, cap, e, hr.le, fun h0 => hr.one h0⟩
end
end Go.Proofs.Ytaalinlggjimcaa
namespace Go.Proofs.Ytaalinlggjimcaa
open Go.RowKit
/-! PrefixLists: a step of the script, with the answered lists beside it. -/
def WoM (Z : Nat → Prop) (w wr : World) (wd bd : Nat) (v : Value) (m : Nat) (l : Nat → Nat) : Prop := Below w.heap.size w wr ∧ ((wr.rowIs wd 63 7 nilW ∧ ∃ E K, Mk wr (fun _ => 0) v m E l K) ∨ ∃ X lab L N num y mine E K, X.wd = wd ∧ X.Z = Z ∧ St wr X lab L N num y mine bd ∧ (∀ z, lab z ≠ 0 → w.heap.size ≤ z) ∧ Mk wr lab v m E l K)
theorem WoM.of {Z : Nat → Prop} {w wr : World} {wd bd : Nat} (h : WoP Z w wr wd bd) (l : Nat → Nat) : WoM Z w wr wd bd (.slice none 0 0) 0 l := by
  refine ⟨h.1, ?_⟩
  rcases h.2 with r | ⟨X, lab, L, N, num, y, mine, e, e2, s, h3⟩
  · exact .inl ⟨r, fun _ => .slice none 0 0, fun _ => 0, mk_nil _ _ _ _ _⟩
  · exact .inr ⟨X, lab, L, N, num, y, mine, fun _ => .slice none 0 0, fun _ => 0, e, e2, s, h3, mk_nil _ _ _ _ _⟩
theorem WoM.wo {Z : Nat → Prop} {w wr : World} {wd bd : Nat} {v : Value} {m : Nat} {l : Nat → Nat} (h : WoM Z w wr wd bd v m l) : WoP Z w wr wd bd := by
  refine ⟨h.1, ?_⟩
  rcases h.2 with ⟨r, _⟩ | ⟨X, lab, L, N, num, y, mine, E, K, e, e2, s, h3, _⟩
  · exact .inl r
  · exact .inr ⟨X, lab, L, N, num, y, mine, e, e2, s, h3⟩
theorem WoM.fresh {Z : Nat → Prop} {w wr wq : World} {wd bd : Nat} {v : Value} {m : Nat} {l : Nat → Nat} (h : WoM Z w wr wd bd v m l) (f : Below wr.heap.size wr wq) : WoM Z w wq wd bd v m l := by
  refine ⟨h.1.trans (f.mono h.1.size), ?_⟩
  rcases h.2 with ⟨r, E, K, mk⟩ | ⟨X, lab, L, N, num, y, mine, E, K, e, e2, s, h3, mk⟩
  · exact .inl ⟨nil_row r f, E, K, mk.fresh f⟩
  · exact .inr ⟨X, lab, L, N, num, y, mine, E, K, e, e2, s.fresh f, h3, mk.fresh f⟩
theorem wom_step {Z : Nat → Prop} {w wr : World} {wd bd : Nat} {v : Value} {m : Nat} {l : Nat → Nat} (h : WoM Z w wr wd bd v m l) (hbd : bd ≤ 1099511627776) {so : Option Addr} {n cap : Nat} {s : Sc} (hs : ScAt w so n cap s) {i : Nat} (hi : i < n) (ht : s.TL i ≤ 2147483647) (hb : s.BL i ≤ 2147483647) (who : Int) (hZ : ∀ k : Nat, k < 2 → (who.tmod 2 = (k : Int) ∨ (who.tmod 2 = -1 ∧ k = 1)) → Z k) :
    Calls Try.prog 28 #[.pointer (some ⟨wd, 0, none⟩), .agg #[.int .i64 (s.KD i), .int .i64 who, .slice (s.TO i) (s.TL i) (s.TC i), .slice (s.BO i) (s.BL i) (s.BC i), .int .i64 (s.NN i)]] wr fun e w' => e = .returned (.bool true) ∧ WoM Z w w' wd (bd + 1) v m l := by
  obtain ⟨f, ⟨r, E, K, mk⟩ | ⟨X, lab, L, N, num, y, mine, E, K, rfl, rfl, st, l, mk⟩⟩ := h
  · obtain ⟨k, hk, hr⟩ := who_two who
    have htk := (hs.tk i hi).fresh f
    have hbk := (hs.bk i hi).fresh f
    have key : Calls Try.prog 28 #[.pointer (some ⟨wd, 0, none⟩), .agg #[.int .i64 (s.KD i), .int .i64 who, .slice (s.TO i) (s.TL i) (s.TC i), .slice (s.BO i) (s.BL i) (s.BC i), .int .i64 (s.NN i)]] wr (NilP wr) := by
      by_cases h0 : s.KD i < 1 ∨ 7 < s.KD i
      · exact nstep_other r _ _ _ _ _ _ _ who _ h0 hk hr
      · have hc : s.KD i = 1 ∨ s.KD i = 2 ∨ s.KD i = 3 ∨ s.KD i = 4 ∨ s.KD i = 5 ∨ s.KD i = 6 ∨ s.KD i = 7 := by omega
        rcases hc with e | e | e | e | e | e | e <;> rw [e]
        · exact nstep_take r _ _ _ _ _ _ _ who hk hr
        · exact nstep_hold r _ _ _ _ _ _ _ who hk hr
        · exact nstep_drop r _ _ _ _ _ _ _ who hk hr
        · exact nstep_find r _ _ _ _ _ _ _ who htk ht hk hr
        · exact nstep_keep r _ _ _ _ _ _ _ who htk ht hbk hb hk hr
        · exact nstep_shrink r _ _ _ _ _ _ _ who hk hr
        · exact nstep_len r _ _ _ _ _ _ _ who hk hr
    refine key.mono ?_
    rintro e w' ⟨rfl, f'⟩
    exact ⟨rfl, f.trans (f'.mono f.size), .inl ⟨nil_row r f', E, K, mk.fresh f'⟩⟩
  · have op : ∀ {ao : Option Addr} {T c : Nat} {t : Nat → Int}, RdA w ao 1 T c (fun j => .int .i64 (t j)) → (∀ j, j < T → fits (t j)) → T ≤ 2147483647 → OpAt wr lab ao T c t := fun {ao T c t} hrd hfit hT => ⟨hrd.fresh f, hfit, fun h0 b o e => by
      obtain ⟨b1, o1, e1, hc⟩ := hrd.at_ h0
      rw [e] at e1
      injection e1 with e1
      injection e1 with e1 _
      subst e1
      have := lt_of_cell (hc 0 (by omega))
      exact Classical.not_not.1 (fun q => by have := l b q; omega), hT⟩
    refine (step_any st hbd (op (hs.tk i hi) (hs.tf i hi) ht) (op (hs.bk i hi) (hs.bf i hi) hb) (s.KD i) who (s.NN i) hZ).mono ?_
    rintro e w' ⟨rfl, lab', L', N', num', y', mine', st', ho, hch⟩
    refine ⟨rfl, hch.below f f.size (fun z hz => l z hz), .inr ⟨X, lab', L', N', num', y', mine', E, K, rfl, rfl, st', fun z hz => ?_, mk.step hch ho⟩⟩
    by_cases e : z < wr.heap.size
    · rw [ho z e] at hz
      exact l z hz
    · have := f.size; omega
end Go.Proofs.Ytaalinlggjimcaa
