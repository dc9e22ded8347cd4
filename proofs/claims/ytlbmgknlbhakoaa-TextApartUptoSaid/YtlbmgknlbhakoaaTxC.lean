import Derived.Test.YtlbmgknlbhakoaaTxB
import Derived.Test.YtlbmgknlbhakoaaTxI
namespace Go.Proofs.Ytlbmgknlbhakoaa
open Go.RowKit
/-! A stream in memory; waiting, come. -/
def st4 (a b c e : Value) : Nat → Value := fun i => if i = 0 then a else if i = 1 then b else if i = 2 then c else e
structure StP (w : World) (S : Nat) (K : Nat → Prop) (d : VD) (sts : List (List Int)) (wv : Value) (o : Bool) : Prop where
  row : ∃ po kp so ks, w.rowIs S 60 4 (st4 (.slice po (d.nb + 1 + d.np) kp) (.slice so sts.length ks) wv (.bool o)) ∧ RoT w K po (d.nb + 1 + d.np) kp d.pc ∧ RoT w K so sts.length ks (fun i => sts.getD i [])
  kS : ¬ K S
  kl : ∀ b, K b → b < w.heap.size
structure StA (w : World) (S : Nat) (K : Nat → Prop) (d : VD) (sts : List (List Int)) (wv : Value) (x : List Int) (o : Bool) : Prop where
  p : StP w S K d sts wv o
  wt : OwnB w 0 wv x
  off : ∀ b, wv.ownBlock = some b → ¬ K b
  wS : wv.ownBlock ≠ some S
structure Cst (d : VD) (sts : List (List Int)) : Prop where
  right : d.Right
  ok : SOk sts
  byt : ∀ k, Byt (d.pc k)
theorem StP.lt {w : World} {S : Nat} {K : Nat → Prop} {d : VD} {sts : List (List Int)} {wv : Value} {o : Bool} (h : StP w S K d sts wv o) : S < w.heap.size := by
  obtain ⟨_, _, _, _, hr, _⟩ := h.row
  exact hr.lt
theorem StP.chg {w w' : World} {S : Nat} {K T : Nat → Prop} {d : VD} {sts : List (List Int)} {wv : Value} {o : Bool} (h : StP w S K d sts wv o) (c : Chg w w' T) (hS : ¬ T S) (hT : ∀ b, K b → ¬ T b) : StP w' S K d sts wv o := by
  obtain ⟨po, kp, so, ks, hr, h1, h2⟩ := h.row
  exact ⟨⟨po, kp, so, ks, c.row hr hS, h1.chg c hT, h2.chg c hT⟩, h.kS, fun b hb => Nat.lt_of_lt_of_le (h.kl b hb) c.size⟩
theorem StP.fresh {w w' : World} {S : Nat} {K : Nat → Prop} {d : VD} {sts : List (List Int)} {wv : Value} {o : Bool} (h : StP w S K d sts wv o) (f : Below w.heap.size w w') : StP w' S K d sts wv o :=
  h.chg (Chg.of_below (fun _ => False) f) (fun h => h) (fun _ _ h => h)
theorem st4_set2 {a b c e x : Value} : ∀ i, i < 4 → (if i = 2 then x else st4 a b c e i) = st4 a b x e i := by
  intro i hi
  obtain rfl | rfl | rfl | rfl : i = 0 ∨ i = 1 ∨ i = 2 ∨ i = 3 := by omega
  all_goals rfl
theorem st4_set3 {a b c e x : Value} : ∀ i, i < 4 → (if i = 3 then x else st4 a b c e i) = st4 a b c x i := by
  intro i hi
  obtain rfl | rfl | rfl | rfl : i = 0 ∨ i = 1 ∨ i = 2 ∨ i = 3 := by omega
  all_goals rfl
theorem StP.over {w : World} {S : Nat} {K : Nat → Prop} {d : VD} {sts : List (List Int)} {wv : Value} {o : Bool} (h : StP w S K d sts wv o) (o' : Bool) : StP (w.setCell ⟨S, 3, none⟩ (.bool o')) S K d sts wv o' := by
  obtain ⟨po, kp, so, ks, hr, h1, h2⟩ := h.row
  have c := Chg.of_set w S 3 (.bool o')
  have hK : ∀ b, K b → ¬ b = S := fun b hb e => h.kS (e ▸ hb)
  exact ⟨⟨po, kp, so, ks, (hr.set 3 (.bool o')).congr st4_set3, h1.chg c hK, h2.chg c hK⟩, h.kS, fun b hb => Nat.lt_of_lt_of_le (h.kl b hb) c.size⟩
theorem StP.wait {w : World} {S : Nat} {K : Nat → Prop} {d : VD} {sts : List (List Int)} {wv : Value} {o : Bool} (h : StP w S K d sts wv o) (wv' : Value) : StP (w.setCell ⟨S, 2, none⟩ wv') S K d sts wv' o := by
  obtain ⟨po, kp, so, ks, hr, h1, h2⟩ := h.row
  have c := Chg.of_set w S 2 wv'
  have hK : ∀ b, K b → ¬ b = S := fun b hb e => h.kS (e ▸ hb)
  exact ⟨⟨po, kp, so, ks, (hr.set 2 wv').congr st4_set2, h1.chg c hK, h2.chg c hK⟩, h.kS, fun b hb => Nat.lt_of_lt_of_le (h.kl b hb) c.size⟩
theorem StP.cells {w : World} {S : Nat} {K : Nat → Prop} {d : VD} {sts : List (List Int)} {wv : Value} {o : Bool} (h : StP w S K d sts wv o) : w.cell? ⟨S, 2, none⟩ = some wv ∧ w.cell? ⟨S, 3, none⟩ = some (.bool o) ∧ ∀ j, w.frozen? ⟨S, j, none⟩ = false := by
  obtain ⟨po, kp, so, ks, hr, h1, h2⟩ := h.row
  exact ⟨hr.cell (i := 2) (by decide), hr.cell (i := 3) (by decide), hr.frozen⟩
theorem StP.stops {w : World} {S : Nat} {K : Nat → Prop} {d : VD} {sts : List (List Int)} {wv : Value} {o : Bool} (h : StP w S K d sts wv o) : ∃ so ks, w.cell? ⟨S, 1, none⟩ = some (.slice so sts.length ks) ∧ RoT w K so sts.length ks (fun i => sts.getD i []) := by
  obtain ⟨po, kp, so, ks, hr, h1, h2⟩ := h.row
  exact ⟨so, ks, hr.cell (i := 1) (by decide), h2⟩
theorem StP.tab {w : World} {S : Nat} {K : Nat → Prop} {d : VD} {sts : List (List Int)} {wv : Value} {o : Bool} (h : StP w S K d sts wv o) : ∃ po kp, w.cell? ⟨S, 0, none⟩ = some (.slice po (d.nb + 1 + d.np) kp) ∧ RoT w K po (d.nb + 1 + d.np) kp d.pc := by
  obtain ⟨po, kp, so, ks, hr, h1, h2⟩ := h.row
  exact ⟨po, kp, hr.cell (i := 0) (by decide), h1⟩
theorem OwnB.rda {w : World} {base : Nat} {v : Value} {l : List Int} (h : OwnB w base v l) : ∃ ao cap, v = .slice ao l.length cap ∧ RdA w ao 1 l.length cap (fun j => .int .u8 (l.getD j 0)) := Own.rd h
theorem begN_15 {sts : List (List Int)} (h : SOk sts) (t : List Int) : begN sts t ≤ 15 := by
  rcases begN_at sts t with e | ⟨s, hs, hn, _⟩
  · omega
  · obtain ⟨i, hi, e⟩ := List.mem_iff_getElem.1 hs
    have := (h.len i hi).2
    rw [List.getD_eq_getElem?_getD, List.getElem?_eq_getElem hi, e] at this
    simp at this
    omega
set_option maxRecDepth 100000 in
theorem wait_any {w : World} {S : Nat} {K : Nat → Prop} {d : VD} {sts : List (List Int)} {wv : Value} {o : Bool} {ao : Option Addr} {ca : Nat} {t : List Int} (hC : Cst d sts) (hS : StP w S K d sts wv o) (ht : RdA w ao 1 t.length ca (fun j => .int .u8 (t.getD j 0))) (bt : Byt t) :
    Calls Try.prog 27 #[.pointer (some ⟨S, 0, none⟩), .slice ao t.length ca] w fun e w' => e = .returned (.int .i64 (waN sts t : Int)) ∧ Below w.heap.size w w' := by
  obtain ⟨so, ks, hc, hst⟩ := hS.stops
  have H1 := hidd (stopB_any hc hst hC.ok ht bt)
  have hbl := begN_len sts t
  have hb15 := begN_15 hC.ok t
  have hle := ht.le
  have htop := ht.top
  unfold maxLen at htop
  have HW : Hid (waN sts t = begN sts t + runeN (t.take (t.length - begN sts t))) := rfl
  have hr3 := (runeN_le (t.take (t.length - begN sts t))).1
  have HH : Hid (∃ ao', (t = [] ∨ ao' = ao) ∧ RdA w ao 1 (t.take (t.length - begN sts t)).length ca (fun j => .int .u8 ((t.take (t.length - begN sts t)).getD j 0))) := by
    by_cases h0 : 0 < t.length
    · obtain ⟨b, off, rfl, _⟩ := ht.one h0
      exact ⟨_, .inr rfl, ht.head (by omega)⟩
    · obtain rfl : t = [] := by cases t with
        | nil => rfl
        | cons a r => simp at h0
      exact ⟨none, .inl rfl, by simpa using ht⟩
  have hlen : (t.take (t.length - begN sts t)).length = t.length - begN sts t := by rw [List.length_take]; omega
  have H2 : Hid (∀ w', Below w.heap.size w w' → Calls Try.prog 38 #[.slice ao (t.length - begN sts t) ca] w' fun e w'' => e = .returned (.int .i64 (runeN (t.take (t.length - begN sts t)) : Int)) ∧ Below w'.heap.size w' w'') := fun w' hf => by
    obtain ⟨_, _, h⟩ := HH.out
    have := runeBg_any (h.fresh hf)
    rwa [hlen] at this
  clear HH hlen ht hc hst
  obtain ⟨h, eh⟩ : ∃ h, h = begN sts t := ⟨_, rfl⟩
  obtain ⟨r, er⟩ : ∃ r, r = runeN (t.take (t.length - begN sts t)) := ⟨_, rfl⟩
  rw [← er] at H2 HW hr3
  rw [← eh] at H1 H2 HW hbl hb15
  clear eh er
  obtain ⟨L, eL⟩ : ∃ L, L = t.length := ⟨_, rfl⟩
  rw [← eL] at H1 H2 hbl hle ⊢
  clear eL
  have E : Hid ((h : Int) + (r : Int) = (waN sts t : Int)) := by show _ = _; rw [HW.out]; simp
  go_enter Try.func27, Try.ntmps27
  go_wp2_with fail
  refine H1.out.mono ?_
  rintro e w1 ⟨rfl, hw⟩
  rw [hw]
  clear hw
  have hsub : ((L - h : Nat) : Int) = (L : Int) - (h : Int) := by omega
  have HSB := hidd hsub
  clear hsub
  go_wp2_with fail
  refine (H2.out _ (Below.refl _ _)).mono ?_
  rintro e w2 ⟨rfl, f2⟩
  go_wp2
  go_ret
  exact ⟨ret_int E.out, f2⟩
theorem Own.shrink {w : World} {base : Nat} {e : TypeId} {sz m k cap : Nat} {u : Option Addr} {cs : Nat → Value} (h : Own w base e sz (.slice u m cap) m cs) (hk : k ≤ m) : Own w base e sz (.slice u k cap) k cs := by
  rcases h.2 with ⟨h1, h2⟩ | ⟨g, cap', cur, h1, hb, hg, hnc, hcm, hcs, htake⟩
  · cases h1
    obtain rfl : k = 0 := by omega
    exact h
  · cases h1
    refine ⟨by simp, .inr ⟨g, cap, cur, rfl, hb, hg, by omega, hcm, hcs, ?_⟩⟩
    have hks : k * sz ≤ m * sz := Nat.mul_le_mul_right _ hk
    have h2 := congrArg (List.take (k * sz)) htake
    rw [List.take_take, Nat.min_eq_left hks] at h2
    rw [h2, ← List.map_take, List.take_range, Nat.min_eq_left hks]
theorem ownB_len (ao : Option Addr) (n m c c' : Nat) : (Value.slice ao n c).ownBlock = (Value.slice ao m c').ownBlock := by cases ao <;> rfl
theorem OwnB.cut {w : World} {ao : Option Addr} {cap k : Nat} {l : List Int} (h : OwnB w 0 (.slice ao l.length cap) l) (hk : k ≤ l.length) : OwnB w 0 (.slice ao (l.take k).length cap) (l.take k) := by
  have e : (l.take k).length = k := by rw [List.length_take]; omega
  unfold OwnB
  rw [e]
  refine (Own.shrink h hk).congr (fun j hj => ?_)
  have : j < k := by omega
  simp [List.getD_eq_getElem?_getD, this]
theorem OwnB.set {w : World} {v : Value} {l : List Int} (h : OwnB w 0 v l) (S o : Nat) (x : Value) (hS : v.ownBlock ≠ some S) : OwnB (w.setCell ⟨S, o, none⟩ x) 0 v l :=
  Own.chg (Chg.of_set w S o x) h (fun _ hb e => hS (e ▸ hb))
theorem StA.nS {w : World} {S : Nat} {K : Nat → Prop} {d : VD} {sts : List (List Int)} {wv : Value} {x : List Int} {o : Bool} {v : Value} (h0 : StA w S K d sts wv x o) (hb : ∀ b, v.ownBlock = some b → wv.ownBlock = some b ∨ w.heap.size ≤ b) : v.ownBlock ≠ some S := fun e => by
  rcases hb S e with e | e
  · exact h0.wS e
  · have := h0.p.lt; omega
/-- What come's loops keep. -/
structure CmI (w : World) (S : Nat) (K : Nat → Prop) (d : VD) (sts : List (List Int)) (wv : Value) (t : List Int) (v : Value) (wr : World) : Prop where
  own : OwnB wr 0 v t
  st : StP wr S K d sts wv false
  chg : Chg w wr (fun b => wv.ownBlock = some b)
  blk : ∀ b, v.ownBlock = some b → wv.ownBlock = some b ∨ w.heap.size ≤ b
theorem CmI.start {w : World} {S : Nat} {K : Nat → Prop} {d : VD} {sts : List (List Int)} {wv : Value} {x : List Int} (h : StA w S K d sts wv x false) : CmI w S K d sts wv x wv w :=
  ⟨h.wt, h.p, Chg.refl _ _, fun _ hb => .inl hb⟩
theorem CmI.step {w : World} {S : Nat} {K : Nat → Prop} {d : VD} {sts : List (List Int)} {wv : Value} {x t : List Int} {o : Bool} {v v' : Value} {wr wr1 w6 : World} {c : Int} (h0 : StA w S K d sts wv x o) (h : CmI w S K d sts wv t v wr) (f : Below wr.heap.size wr wr1) (ha : App wr1 w6 v v') (ho : OwnB w6 0 v' (t ++ [c])) : CmI w S K d sts wv (t ++ [c]) v' w6 := by
  have hz := h.chg.size
  have cA := Chg.of_app ha
  have hvS : v.ownBlock ≠ some S := fun e => by
    rcases h.blk S e with e | e
    · exact h0.wS e
    · have := h0.p.lt; omega
  have hvK : ∀ b, K b → v.ownBlock ≠ some b := fun b hb e => by
    rcases h.blk b e with e | e
    · exact h0.off b e hb
    · have := h0.p.kl b hb; omega
  refine ⟨ho, (h.st.fresh f).chg cA hvS hvK, (h.chg.post f).trans cA (fun b hb e => ?_), fun b hb => ?_⟩
  · rcases h.blk b e with e | e
    · exact e
    · omega
  · rcases ha.blk b hb with e | e
    · exact h.blk b e
    · right; have := f.size; omega
theorem CmI.fresh {w : World} {S : Nat} {K : Nat → Prop} {d : VD} {sts : List (List Int)} {wv : Value} {t : List Int} {v : Value} {wr wr' : World} (h : CmI w S K d sts wv t v wr) (f : Below wr.heap.size wr wr') : CmI w S K d sts wv t v wr' :=
  ⟨Own.kept h.own f, h.st.fresh f, h.chg.post f, h.blk⟩
theorem drop_cons {l : List Int} {j : Nat} (h : j < l.length) : l.drop j = l.getD j 0 :: l.drop (j + 1) := by
  rw [List.drop_eq_getElem_cons h]; simp [List.getD_eq_getElem?_getD, h]
theorem dropN_cons {l : List Nat} {j : Nat} (h : j < l.length) : l.drop j = l.getD j 0 :: l.drop (j + 1) := by
  rw [List.drop_eq_getElem_cons h]; simp [List.getD_eq_getElem?_getD, h]
theorem comB_cons (sts : List (List Int)) (t : List Int) (b : Int) (r : List Int) : comB sts t (b :: r) = if 0 < endN sts (t ++ [b]) then ((t ++ [b]).take ((t ++ [b]).length - endN sts (t ++ [b])), true) else comB sts (t ++ [b]) r := rfl
theorem byt_get {l : List Int} (h : Byt l) {j : Nat} (hj : j < l.length) : 0 ≤ l.getD j 0 ∧ l.getD j 0 ≤ 255 := h _ (by simp [List.getD_eq_getElem?_getD, hj])
set_option maxRecDepth 100000 in
set_option maxHeartbeats 4000000 in
theorem come_any {w : World} {S : Nat} {K : Nat → Prop} {d : VD} {sts : List (List Int)} {wv : Value} {x : List Int} (hC : Cst d sts) (hS : StA w S K d sts wv x false) (bx : Byt x) (hx : x.length ≤ 1000)
    {ko : Option Addr} {ck : Nat} {ts : List Nat} (hk : RdA w ko 1 ts.length ck (fun i => .int .i64 ((ts.getD i 0 : Nat) : Int))) (hko : ∀ b off, ko = some ⟨b, off, none⟩ → wv.ownBlock ≠ some b ∧ b ≠ S) (hgd : ∀ i, i < ts.length → ts.getD i 0 < d.nb + 1 + d.np) (hn : ts.length ≤ 2147483700) :
    Calls Try.prog 26 #[.pointer (some ⟨S, 0, none⟩), .slice ko ts.length ck] w fun e w' => ∃ ao cap, e = .returned (.slice ao (comT d sts x ts).1.length cap) ∧ OwnB w' 0 (.slice ao (comT d sts x ts).1.length cap) (comT d sts x ts).1 ∧ (∀ b, (Value.slice ao (comT d sts x ts).1.length cap).ownBlock = some b → wv.ownBlock = some b ∨ w.heap.size ≤ b) ∧ StP w' S K d sts wv (comT d sts x ts).2 ∧ Chg w w' (fun b => b = S ∨ wv.ownBlock = some b) := by
  have HC := hidd hC
  have HS := hidd hS
  have BX := hidd bx
  have HK : Hid (∀ wr, Chg w wr (fun b => wv.ownBlock = some b) → RdA wr ko 1 ts.length ck (fun i => .int .i64 ((ts.getD i 0 : Nat) : Int))) := fun wr c =>
    ⟨hk.le, hk.top, fun h0 => by
      obtain ⟨b, off, e, hcs⟩ := hk.at_ h0
      exact ⟨b, off, e, fun j hj => c.cell (hcs j hj) (hko b off e).1⟩⟩
  obtain ⟨c2, _, _⟩ := hS.p.cells
  obtain ⟨aw, kw, ewv, _⟩ := hS.wt.rda
  obtain ⟨po, kp, c00, htab⟩ := hS.p.tab
  obtain ⟨z1, z2, z3⟩ := hC.right.cnt
  obtain ⟨bp, op, rfl, hKp, hps⟩ := htab.at_ (by omega)
  have hKw : ∀ b, K b → ¬ wv.ownBlock = some b := fun b hb e => hS.off b e hb
  have HTB : Hid (∀ wr, Chg w wr (fun b => wv.ownBlock = some b) → wr.cell? ⟨S, 0, none⟩ = some (.slice (some ⟨bp, op, none⟩) (d.nb + 1 + d.np) kp)) := fun wr c => c.cell c00 hS.wS
  have HPS : Hid (∀ q, q < d.nb + 1 + d.np → ∃ u c, (∀ wr, Chg w wr (fun b => wv.ownBlock = some b) → wr.cell? ⟨bp, op + q, none⟩ = some (.slice u (d.pc q).length c)) ∧ (∀ wr, Chg w wr (fun b => wv.ownBlock = some b) → RoL wr K u c (d.pc q))) := fun q hq => by
    obtain ⟨u, c, h1, h2⟩ := hps q hq
    exact ⟨u, c, fun wr cg => cg.cell h1 (hKw bp hKp), fun wr cg => h2.chg cg hKw⟩
  have hN64 : d.nb + 1 + d.np ≤ 64 := by omega
  have hcapT := htab.le
  have htopT := htab.top
  clear z1 z2 z3 htab hps c00 hKw
  obtain ⟨N, eN⟩ : ∃ N, N = d.nb + 1 + d.np := ⟨_, rfl⟩
  rw [← eN] at HTB HPS hN64 hcapT hgd
  have HGD := hidd hgd
  have HLA : Hid (∀ q, q < N → (d.pc q).length ≤ 16) := fun q hq => hC.right.len_all q (by omega)
  clear eN
  obtain ⟨R, eR⟩ : ∃ R, R = comT d sts x ts := ⟨_, rfl⟩
  have ER := hidd eR
  rw [← eR]
  have HSt := hidd (CmI.start hS)
  have EWV := hidd ewv
  rw [ewv] at c2
  obtain ⟨n, en⟩ : ∃ n, n = ts.length := ⟨_, rfl⟩
  have EN := hidd en
  rw [← en] at hn HK ⊢
  have hck := hk.le
  clear hC hS bx hgd hk hko eR ewv en
  go_enter Try.func26, Try.ntmps26
  go_wp2
  go_loopw [5, 17] (fun v i wr => ∃ (k : Nat) (t : List Int), k ≤ n ∧ i = .int .i64 k ∧ t.length ≤ 1000 + 16 * k ∧ Hid (Byt t) ∧ Hid (comT d sts t (ts.drop k) = R) ∧ Hid (CmI w S K d sts wv t v wr)) (fun _ i _ => n - (intOf i).toNat)
  case atStart => exact ⟨0, x, Nat.zero_le _, rfl, by omega, BX, (by show _ = _; rw [List.drop_zero]; exact ER.out.symm), (by show CmI _ _ _ _ _ _ _ _ _; have := HSt.out; rw [EWV.out] at this ⊢; exact this)⟩
  case round =>
    obtain ⟨k, t, hkn, rfl, htl, BT, HR, HI⟩ := hrel
    obtain ⟨av, kv, rfl, hrd⟩ := HI.out.own.rda
    by_cases hlt : k < n
    · obtain ⟨b1, o1, rfl, hcs⟩ := (HK.out wr HI.out.chg).one (by omega)
      have c1 := hcs k hlt
      have hg := HGD.out k (by have := EN.out; omega)
      have HD : Hid (ts.drop k = ts.getD k 0 :: ts.drop (k + 1)) := dropN_cons (by have := EN.out; omega)
      obtain ⟨q, eq⟩ : ∃ q, q = ts.getD k 0 := ⟨_, rfl⟩
      rw [← eq] at c1 hg HD
      clear hcs eq
      obtain ⟨f2, f3, ff⟩ := HI.out.st.cells
      have ffz := ff 3
      by_cases hq : q = 0
      · have e0 : R = (t, true) := by rw [← HR.out, HD.out, comT_cons, if_pos hq]
        have HI2 := hidd (HI.out.st.over true)
        have HC2 : Hid (Chg w (wr.setCell ⟨S, 3, none⟩ (.bool true)) (fun b => b = S ∨ wv.ownBlock = some b)) := (HI.out.chg.imp (fun b _ h => .inr h)).trans (Chg.of_set wr S 3 (.bool true)) (fun b _ h => .inl h)
        have HR2 := hidd (HI.out.own.set S 3 (.bool true) (HS.out.nS HI.out.blk))
        have HE := hidd e0
        have hq' : (q : Int) = 0 := by omega
        clear e0 hrd ff
        subst hq
        go_wp2
        go_ret
        rw [HE.out]
        exact ⟨_, _, rfl, HR2.out, HI.out.blk, HI2.out, HC2.out⟩
      · have hq1 : ((q : Int) == 0) = false := by simp; omega
        have c0 := HTB.out wr HI.out.chg
        obtain ⟨u, c, h1', h2⟩ := HPS.out q hg
        have h1 := h1' wr HI.out.chg
        have hl16 := HLA.out q hg
        have HN : Hid (comT d sts t (ts.drop k) = if (comB sts t (d.pc q)).2 then comB sts t (d.pc q) else comT d sts (comB sts t (d.pc q)).1 (ts.drop (k + 1))) := by
          show _ = _
          rw [HD.out, comT_cons, if_neg hq]
        have BP := hidd (HC.out.byt q)
        obtain ⟨p, ep⟩ : ∃ p, p = d.pc q := ⟨_, rfl⟩
        rw [← ep] at h1 h2 hl16 HN BP
        have H2 := hidd h2
        obtain ⟨M, eM⟩ : ∃ M, M = p.length := ⟨_, rfl⟩
        have EM := hidd eM
        have hcM := (h2 wr HI.out.chg).le
        have htM := (h2 wr HI.out.chg).top
        rw [← eM] at h1 hl16 hcM
        clear ep eM h2 hrd ff h1' f2 f3 ffz
        obtain ⟨wz, ewz⟩ : ∃ wz, wz = wr := ⟨_, rfl⟩
        subst ewz
        go_wp2
        go_loopw [5, 35] (fun v i wr => ∃ (j : Nat) (t' : List Int), j ≤ M ∧ i = .int .i64 j ∧ t'.length = t.length + j ∧ Hid (Byt t') ∧ Hid (comB sts t' (p.drop j) = comB sts t p) ∧ Hid (CmI w S K d sts wv t' v wr)) (fun _ i _ => M - (intOf i).toNat)
        case atStart => exact ⟨0, t, Nat.zero_le _, rfl, rfl, BT, (by show _ = _; rw [List.drop_zero]), HI⟩
        case round =>
          obtain ⟨j, t', hj, rfl, htl', BT', HB, HJ⟩ := hrel
          obtain ⟨av', kv', rfl, _⟩ := HJ.out.own.rda
          have HTL := hidd htl'
          clear htl'
          by_cases hjm : j < M
          · obtain ⟨b3, o3, rfl, hcs⟩ := (H2.out wr HJ.out.chg).rd.one (by have := EM.out; omega)
            have c3 := hcs j (by have := EM.out; omega)
            have bj := byt_get BP.out (j := j) (by have := EM.out; omega)
            have HPD : Hid (comB sts t p = if 0 < endN sts (t' ++ [p.getD j 0]) then ((t' ++ [p.getD j 0]).take ((t' ++ [p.getD j 0]).length - endN sts (t' ++ [p.getD j 0])), true) else comB sts (t' ++ [p.getD j 0]) (p.drop (j + 1))) := by
              show _ = _
              rw [← HB.out, drop_cons (by have := EM.out; omega), comB_cons]
            obtain ⟨y, ey⟩ : ∃ y, y = p.getD j 0 := ⟨_, rfl⟩
            rw [← ey] at c3 bj HPD
            clear ey hcs
            have hT2 : t'.length ≤ 1000 + 16 * k + 16 := by have := HTL.out; omega
            have HO1 : Hid (Own wr 0 5 1 (.slice av' t'.length kv') t'.length (fun j => .int .u8 ((t' ++ [y]).getD j 0))) := Own.congr HJ.out.own (fun j hj => by rw [getD_app_lo (by omega)])
            have HNC : Hid ((fun j => Value.int .u8 ((t' ++ [y]).getD j 0)) t'.length = .int .u8 y) := by show _ = _; simp [List.getD_eq_getElem?_getD]
            have HX : Hid (∀ t, (wr.alloc (.cells #[.int .u8 y] t)).cell? ⟨wr.heap.size, 0, none⟩ = some ((fun j => Value.int .u8 ((t' ++ [y]).getD j 0)) t'.length)) := fun t => by rw [HNC.out]; exact new_cell _ _ _
            go_wp2_with (at_builtin; refine wpList_app1 _ rfl _ _ 22 rfl 0 5 (.int .u8 0) 1 Try.underlying22 infoB rfl _ t'.length (fun j => .int .u8 ((t' ++ [y]).getD j 0)) rfl (HO1.out.kept (fresh_alloc _ _)) _ 1 rfl (HX.out _) rfl (by omega) (by omega) (Nat.zero_le _) ?_)
            intro v6 w6 hown6 happ
            have HO6 : Hid (OwnB w6 0 v6 (t' ++ [y])) := by show OwnB _ _ _ _; unfold OwnB; rw [List.length_append]; exact hown6
            have HJ6 := hidd (CmI.step HS.out HJ.out (fresh_alloc _ _) happ HO6.out)
            have BT6 : Hid (Byt (t' ++ [y])) := BT'.out.app (fun z hz => by simp at hz; rw [hz]; exact bj)
            clear hown6 happ HO1 HX HNC
            obtain ⟨a6, k6, e6, hr6⟩ := HO6.out.rda
            obtain ⟨so, ks, cS, hst⟩ := HJ6.out.st.stops
            have HSE := hidd (stopE_any cS hst HC.out.ok hr6 BT6.out)
            have hR6 := hidd hr6
            have hel := endN_len sts (t' ++ [y])
            obtain ⟨g3, g4, gf⟩ := HJ6.out.st.cells
            have gfz := gf 3
            obtain ⟨L6, eL6⟩ : ∃ L6, L6 = (t' ++ [y]).length := ⟨_, rfl⟩
            have EL6 := hidd eL6
            have hL6 : L6 = t'.length + 1 := by rw [eL6]; simp
            have HL6 := hidd hL6
            have hL6b : L6 ≤ 1000 + 16 * k + 17 := by omega
            rw [← eL6] at e6 HSE hel
            have hk6 := hr6.le
            have hk6t := hr6.top
            rw [← eL6] at hk6
            unfold maxLen at hk6t
            obtain ⟨E, eE⟩ : ∃ E, E = endN sts (t' ++ [y]) := ⟨_, rfl⟩
            rw [← eE] at HSE hel HPD
            rw [← eL6] at HPD
            clear eL6 hL6 eE hr6 cS hst gf c3
            subst e6
            by_cases hE : 0 < E
            · have HRR : Hid (R = ((t' ++ [y]).take (L6 - E), true)) := by
                show _ = _
                have e1 : comB sts t p = ((t' ++ [y]).take (L6 - E), true) := by rw [HPD.out, if_pos hE]
                rw [← HR.out, HN.out, e1]; simp
              have HI2 := hidd (HJ6.out.st.over true)
              have HC2 : Hid (Chg w (w6.setCell ⟨S, 3, none⟩ (.bool true)) (fun b => b = S ∨ wv.ownBlock = some b)) := (HJ6.out.chg.imp (fun b _ h => .inr h)).trans (Chg.of_set w6 S 3 (.bool true)) (fun b _ h => .inl h)
              have HBL : Hid (∀ b, (Value.slice a6 ((t' ++ [y]).take (L6 - E)).length k6).ownBlock = some b → wv.ownBlock = some b ∨ w.heap.size ≤ b) := fun b hb => HJ6.out.blk b (by rw [← hb]; exact ownB_len _ _ _ _ _)
              have HR2 := hidd ((OwnB.cut (k := L6 - E) (by have := HO6.out; rwa [EL6.out] at this) (by have := EL6.out; omega)).set S 3 (.bool true) (HS.out.nS HBL.out))
              have hlen6 : Hid (((t' ++ [y]).take (L6 - E)).length = L6 - E) := by show _ = _; rw [List.length_take, ← EL6.out]; omega
              obtain ⟨bb, oo, rfl, _⟩ := hR6.out.one (by simp)
              go_wp2_with fail
              refine HSE.out.mono ?_
              rintro e w7 ⟨rfl, hw7⟩
              rw [hw7]
              clear hw7
              go_wp2
              go_ret
              rw [HRR.out]
              refine ⟨_, _, ?_, HR2.out, HBL.out, HI2.out, HC2.out⟩
              rw [hlen6.out]
              rfl
            · have HB6 : Hid (comB sts (t' ++ [y]) (p.drop (j + 1)) = comB sts t p) := by show _ = _; rw [HPD.out, if_neg hE]
              go_wp2_with fail
              refine HSE.out.mono ?_
              rintro e w7 ⟨rfl, hw7⟩
              rw [hw7]
              clear hw7
              go_wp2
              go_roundw
              case rel => exact ⟨j + 1, t' ++ [y], by omega, by go_num, (by rw [List.length_append, HTL.out]; simp; omega), BT6, HB6, HJ6⟩
              case measure => simp [intOf]; omega
          · obtain rfl : j = M := by omega
            have e1 : comB sts t p = (t', false) := by rw [← HB.out, EM.out, List.drop_length]; rfl
            have HR9 : Hid (comT d sts t' (ts.drop (k + 1)) = R) := by show _ = _; rw [← HR.out, HN.out, e1]; simp
            have hT9 : t'.length ≤ 1000 + 16 * (k + 1) := by have := HTL.out; omega
            clear e1
            go_wp2
            go_roundw
            case rel => exact ⟨k + 1, t', by omega, by go_num, hT9, BT', HR9, HJ⟩
            case measure => simp [intOf]; omega
    · obtain rfl : k = n := by omega
      have e0 : R = (t, false) := by rw [← HR.out, EN.out, List.drop_length]; rfl
      have HE := hidd e0
      clear e0 hrd
      go_wp2
      go_ret
      rw [HE.out]
      exact ⟨_, _, rfl, HI.out.own, HI.out.blk, HI.out.st, HI.out.chg.imp (fun b _ h => .inr h)⟩
end Go.Proofs.Ytlbmgknlbhakoaa
