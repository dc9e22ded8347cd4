import Derived.Test.YtemmghneohnigaaDoorRK
import Derived.Test.YtemmghneohnigaaDoorVA
namespace Go.Proofs.YtemmghneohnigaaDoor
open Go.RowKit
/-! Lists of unlike types; lists with marks. -/
theorem infoT : (Tryd.prog.info? 9).map (fun i => (i.zero, i.size, i.bytes)) = some (some (.string ⟨#[]⟩), 1, 16) := by kernel_rfl
/-- lists of unlike types share no block -/
theorem Own.unlike {w : World} {base base' : Nat} {e e' : TypeId} {sz sz' : Nat} {v v' : Value} {n n' : Nat} {cs cs' : Nat → Value} (h : Own w base e sz v n cs) (h' : Own w base' e' sz' v' n' cs') (hne : e ≠ e') : Off v v' := fun k hk hk' => by
  rcases h.2 with ⟨rfl, rfl⟩ | ⟨g, cap, cur, rfl, hb, hgg, _⟩
  · simp [Value.ownBlock] at hk
  · rcases h'.2 with ⟨rfl, rfl⟩ | ⟨g', cap', cur', rfl, hb', hgg', _⟩
    · simp [Value.ownBlock] at hk'
    · simp only [Value.ownBlock, Option.some.injEq] at hk hk'
      subst hk
      subst hk'
      rw [hgg] at hgg'
      injection hgg' with q
      injection q with _ q2
      exact hne q2
theorem Own.off_blk {w : World} {base : Nat} {e : TypeId} {sz : Nat} {v : Value} {n : Nat} {cs : Nat → Value} {b : Nat} {t : TypeId} {c2 : Array Value} (h : Own w base e sz v n cs) (hb : Blk w b t c2) (hne : e ≠ t) : ¬ v.ownBlock = some b := by
  intro hv
  rcases h.2 with ⟨rfl, rfl⟩ | ⟨g, cap, cur, rfl, hb', hgg, _⟩
  · simp [Value.ownBlock] at hv
  · simp only [Value.ownBlock, Option.some.injEq] at hv
    subst hv
    unfold Blk at hb
    rw [hb] at hgg
    injection hgg with hgg
    injection hgg with _ h2
    exact hne h2.symm
def mkI (l : List Int) (j : Nat) : Value := .int .i64 (if j < l.length then l.getD j 0 else 77)
def mkS (l : List (List Int)) (j : Nat) : Value := if j < l.length then stc l j else .string ⟨#[109, 97, 114, 107]⟩
theorem mkI_lt {l : List Int} {j : Nat} (h : j < l.length) : mkI l j = .int .i64 (l.getD j 0) := by unfold mkI; rw [if_pos h]
theorem mkI_ge (l : List Int) (k : Nat) : mkI l (l.length + k) = .int .i64 77 := by unfold mkI; rw [if_neg (by omega)]
theorem mkS_lt {l : List (List Int)} {j : Nat} (h : j < l.length) : mkS l j = stc l j := by unfold mkS; rw [if_pos h]
theorem mkS_ge (l : List (List Int)) (k : Nat) : mkS l (l.length + k) = .string ⟨#[109, 97, 114, 107]⟩ := by unfold mkS; rw [if_neg (by omega)]
theorem mkBt (l : List Int) {j : Nat} (h : j < l.length) : mkB l j = byc l j := by unfold mkB byc; rw [if_pos h]
theorem mkBg (l : List Int) (k : Nat) : mkB l (l.length + k) = .int .u8 77 := by unfold mkB; rw [if_neg (by omega)]
/-- the three lists, the line and the answer's cell -/
structure Gv (w0 : World) (L Z : Array Value) (t nums : List Int) (st : List (List Int)) (v3 v4 v5 : Value) (a b c : Nat) (w : World) : Prop where
  bx : Blk w w0.heap.size 35 L
  lz : Blk w (w0.heap.size + 1) 38 Z
  o3 : Own w w0.heap.size 5 1 v3 a (mkB t)
  o4 : Own w w0.heap.size 3 1 v4 b (mkI nums)
  o5 : Own w w0.heap.size 9 1 v5 c (mkS st)
  low : Below w0.heap.size w0 w
section
variable {w0 : World} {L Z : Array Value} {t nums : List Int} {st : List (List Int)} {v3 v4 v5 v' : Value} {a b c : Nat} {w w' : World}
theorem Gv.size (h : Gv w0 L Z t nums st v3 v4 v5 a b c w) : w0.heap.size ≤ w.heap.size := h.low.size
theorem Gv.fresh (h : Gv w0 L Z t nums st v3 v4 v5 a b c w) (f : Below w.heap.size w w') : Gv w0 L Z t nums st v3 v4 v5 a b c w' :=
  ⟨h.bx.fresh f, h.lz.fresh f, h.o3.kept f, h.o4.kept f, h.o5.kept f, fresh_trans h.low f⟩
theorem Gv.app3 (h : Gv w0 L Z t nums st v3 v4 v5 a b c w) (o : Own w' w0.heap.size 5 1 v' (a + 1) (mkB t)) (p : App w w' v3 v') : Gv w0 L Z t nums st v' v4 v5 (a + 1) b c w' := by
  have ca := Chg.of_app p
  exact ⟨h.bx.chg ca (h.o3.off_blk h.bx (by decide)), h.lz.chg ca (h.o3.off_blk h.lz (by decide)), o, p.own h.o4 (h.o3.unlike h.o4 (by decide)), p.own h.o5 (h.o3.unlike h.o5 (by decide)), p.below h.low h.o3 (Nat.le_refl _) h.size⟩
theorem Gv.app4 (h : Gv w0 L Z t nums st v3 v4 v5 a b c w) (o : Own w' w0.heap.size 3 1 v' (b + 1) (mkI nums)) (p : App w w' v4 v') : Gv w0 L Z t nums st v3 v' v5 a (b + 1) c w' := by
  have ca := Chg.of_app p
  exact ⟨h.bx.chg ca (h.o4.off_blk h.bx (by decide)), h.lz.chg ca (h.o4.off_blk h.lz (by decide)), p.own h.o3 (h.o4.unlike h.o3 (by decide)), o, p.own h.o5 (h.o4.unlike h.o5 (by decide)), p.below h.low h.o4 (Nat.le_refl _) h.size⟩
theorem Gv.app5 (h : Gv w0 L Z t nums st v3 v4 v5 a b c w) (o : Own w' w0.heap.size 9 1 v' (c + 1) (mkS st)) (p : App w w' v5 v') : Gv w0 L Z t nums st v3 v4 v' a b (c + 1) w' := by
  have ca := Chg.of_app p
  exact ⟨h.bx.chg ca (h.o5.off_blk h.bx (by decide)), h.lz.chg ca (h.o5.off_blk h.lz (by decide)), p.own h.o3 (h.o5.unlike h.o3 (by decide)), p.own h.o4 (h.o5.unlike h.o4 (by decide)), o, p.below h.low h.o5 (Nat.le_refl _) h.size⟩
end
theorem own_slice {w : World} {base : Nat} {e : TypeId} {v : Value} {n : Nat} {cs : Nat → Value} (h : Own w base e 1 v n cs) (hn : 0 < n) : ∃ g cap, v = .slice (some ⟨g, 0, none⟩) n cap ∧ n ≤ cap ∧ cap ≤ maxLen ∧ base ≤ g := by
  rcases h.2 with ⟨_, h0⟩ | ⟨g, cap, cur, rfl, hb, hgg, h1, h2, _⟩
  · omega
  · exact ⟨g, cap, rfl, h1, h2, hb⟩
def lz7 : Array Value := #[.string ⟨#[]⟩, .int .i64 0, .slice none 0 0, .slice none 0 0, .int .u64 0, .string ⟨#[]⟩, .slice none 0 0]
theorem sizeLn7 : (Tryd.prog.info? 38).map (·.size) = some 7 := by kernel_rfl
end Go.Proofs.YtemmghneohnigaaDoor
namespace Go.Proofs.YtemmghneohnigaaDoor
open Go.RowKit
/-! Parse: what its parts keep. -/
theorem Chg.of_setRow (w : World) (g : Nat) (cs : Array Value) : Chg w (w.setRow g cs) (fun b => b = g) := ⟨below_setRow (Below.refl 0 w) (Nat.zero_le _) cs, fun b _ hS => setRow_other w g b cs hS⟩
/-- what is read behind the numbers, by the word -/
def TailR (k : Nat) (s : Option (List Int)) (u : Nat) (g t : List Int) (st : List (List Int)) (s' : Option (List Int)) : Prop :=
  if k = 0 then ∃ s1 s2 s3, StepR GSeed s u s1 ∧ StepR GLit s1 g s2 ∧ StepR GLit s2 t s3 ∧ StsR s3 st s' ∧ s'.getD [] = [] else if k = 4 then u = 0 ∧ g = [] ∧ st = [] ∧ StepR GLit s t s' else u = 0 ∧ g = [] ∧ t = [] ∧ st = [] ∧ s' = s
theorem found_any {text : List Int} {k : Nat} {n : Int} {nums : List Int} {s1 s2 s3 : Option (List Int)} {u : Nat} {g t : List Int} {st : List (List Int)} (hk : k < 6) (hlen : text.length ≤ 8192) (ht : tw text = wNm k) (h1 : StepR GId (some (dw text)) n s1) (h2 : ManyR GNum s1 nums s2) (hl : nums.length = cntW k) (h3 : TailR k s2 u g t st s3) : Found text k n nums u g t st s3 := by
  unfold TailR at h3
  by_cases k0 : k = 0
  · subst k0
    rw [if_pos rfl] at h3
    obtain ⟨a, b, c, q1, q2, q3, q4, q5⟩ := h3
    exact found_A hlen ht h1 h2 hl q1 q2 q3 q4 q5
  · rw [if_neg k0] at h3
    by_cases k4 : k = 4
    · subst k4
      rw [if_pos rfl] at h3
      obtain ⟨rfl, rfl, rfl, q⟩ := h3
      exact found_T hlen ht h1 h2 hl q
    · rw [if_neg k4] at h3
      obtain ⟨rfl, rfl, rfl, rfl, rfl⟩ := h3
      exact found_N hk k0 k4 hlen ht h1 h2 hl
def mkN (l : List Int) (j : Nat) : Value := .int .i64 (l.getD j 0)
theorem mkN_snoc (l : List Int) (x : Int) : mkN (l ++ [x]) l.length = .int .i64 x := by unfold mkN; simp [List.getD_eq_getElem?_getD]
/-- Parse behind the making of its line -/
structure P8 (w : World) (R wb lb : Nat) (T : Array Value) (wd : ByteArray) (n : Int) (nums : List Int) (bo : Option Addr) (bc : Nat) (s : Option (List Int)) (w7 : World) : Prop where
  ln : Blk w7 lb 38 #[.string wd, .int .i64 n, .slice none 0 0, .slice bo nums.length bc, .int .u64 0, .string ⟨#[]⟩, .slice none 0 0]
  rd : RdO w7 (R + 1) s
  env : Env w7
  wdb : Blk w7 wb 63 T
  res : Blk w7 R 38 lz7
  low : Below w.heap.size w w7
  big : R + 2 ≤ lb
  own : Own w7 w.heap.size 3 1 (.slice bo nums.length bc) nums.length (mkN nums)
  ok : Okl s
theorem P8.fresh {w : World} {R wb lb : Nat} {T : Array Value} {wd : ByteArray} {n : Int} {nums : List Int} {bo : Option Addr} {bc : Nat} {s : Option (List Int)} {wr w5 : World} (h : P8 w R wb lb T wd n nums bo bc s wr) (f : Below wr.heap.size wr w5) : P8 w R wb lb T wd n nums bo bc s w5 :=
  ⟨h.ln.fresh f, h.rd.fresh f, h.env.fresh f, h.wdb.fresh f, h.res.fresh f, fresh_trans h.low f, h.big, h.own.kept f, h.ok⟩
theorem P8.next {w : World} {R wb lb : Nat} {T : Array Value} {wd : ByteArray} {n : Int} {nums : List Int} {bo : Option Addr} {bc : Nat} {s : Option (List Int)} {wr : World} (h : P8 w R wb lb T wd n nums bo bc s wr) (hR : R = w.heap.size) (h6 : 6 ≤ R)
    {w5 : World} {s' : Option (List Int)} {x : Int} (r5 : RdO w5 (R + 1) s') (k5 : Chg wr.drew w5 (fun b => b = R + 1)) (q5 : StepR GNum s x s')
    {w7 : World} {g' cap' : Nat} (o7 : Own w7 w.heap.size 3 1 (.slice (some ⟨g', 0, none⟩) (nums.length + 1) cap') (nums.length + 1) (mkN (nums ++ [x]))) (a7 : App (w5.alloc (.cells #[.int .i64 x] 3)) w7 (.slice bo nums.length bc) (.slice (some ⟨g', 0, none⟩) (nums.length + 1) cap')) :
    w7.cell? ⟨lb, 3, none⟩ = some (.slice bo nums.length bc) ∧ w7.frozen? ⟨lb, 3, none⟩ = false ∧ P8 w R wb lb T wd n (nums ++ [x]) (some ⟨g', 0, none⟩) cap' s' (w7.setCell ⟨lb, 3, none⟩ (.slice (some ⟨g', 0, none⟩) (nums.length + 1) cap')) := by
  have k : Chg wr w5 (fun b => b = R + 1) := Chg.pre (Below.refl _ _).drew k5
  have fa := fresh_alloc w5 (.cells #[.int .i64 x] 3)
  have k6 : Chg wr (w5.alloc (.cells #[.int .i64 x] 3)) (fun b => b = R + 1) := k.post fa
  have hb := h.big
  have ln6 := h.ln.chg k6 (by omega)
  have os6 : Own (w5.alloc (.cells #[.int .i64 x] 3)) w.heap.size 3 1 (.slice bo nums.length bc) nums.length (mkN nums) := h.own.chg k6 (fun x hx e => by subst e; exact h.own.ne_blk h.rd.blk (by decide) hx)
  have r6 := r5.fresh fa
  have wb6 : Blk (w5.alloc (.cells #[.int .i64 x] 3)) wb 63 T := h.wdb.chg k6 (fun e => by
    subst e
    have h1 := h.wdb
    have h2 := h.rd.blk
    unfold Blk at h1 h2
    rw [h1] at h2
    injection h2 with h2
    injection h2 with _ h3
    exact absurd h3 (by decide))
  have res6 := h.res.chg k6 (by omega)
  have env6 : Env (w5.alloc (.cells #[.int .i64 x] 3)) := h.env.chg k6 (fun b hb => by omega)
  have low6 : Below w.heap.size w (w5.alloc (.cells #[.int .i64 x] 3)) := k6.below h.low h.low.size (fun x hx => by omega)
  have ca := Chg.of_app a7
  have ln7 := ln6.chg ca (os6.off_blk ln6 (by decide))
  have r7 := r6.chg ca (os6.off_blk r6.blk (by decide))
  have wb7 := wb6.chg ca (os6.off_blk wb6 (by decide))
  have res7 := res6.chg ca (os6.off_blk res6 (by decide))
  have hbo : ∀ b, (Value.slice bo nums.length bc).ownBlock = some b → w.heap.size ≤ b := fun b hb => (os6.lt b hb).1
  have env7 : Env w7 := env6.chg ca (fun b hb => by have := hbo b hb; omega)
  have low7 : Below w.heap.size w w7 := ca.below low6 low6.size hbo
  have cs := Chg.of_set w7 lb 3 (.slice (some ⟨g', 0, none⟩) (nums.length + 1) cap')
  have hlen : (nums ++ [x]).length = nums.length + 1 := by simp
  have hwl : wb ≠ lb := fun e => by
    subst e
    have h1 := wb7
    have h2 := ln7
    unfold Blk at h1 h2
    rw [h1] at h2
    injection h2 with h2
    injection h2 with _ h3
    exact absurd h3 (by decide)
  refine ⟨by have := ln7.cell 3; simpa using this, ln7.frozen 3, ⟨?_, r7.chg cs (by omega), env7.chg cs (fun b hb => by omega), wb7.chg cs hwl, res7.chg cs (by omega), cs.below low7 low7.size (fun x hx => by omega), hb, ?_, h.ok.num q5⟩⟩
  · rw [hlen]; exact ln7.put 3 _
  · rw [hlen]; exact o7.chg cs (fun x hx e => by subst e; exact o7.ne_blk ln7 (by decide) hx)
/-- what Parse answers -/
def ParA (text : List Int) (w : World) (e : Ending) (w' : World) : Prop :=
  (∃ k n nums u g t st ao ac bo bc co cc, LineQ k n nums u g t st text ∧ (∀ k' n' nums' u' g' t' st', LineQ k' n' nums' u' g' t' st' text → k' = k ∧ n' = n ∧ nums' = nums ∧ u' = u ∧ g' = g ∧ t' = t ∧ st' = st) ∧ e = .returned (.tuple #[.agg (lnA (strOfNums (wNm k)) n ao t.length ac bo nums.length bc (u : Int) (strOfNums g) co st.length cc), .int .i64 0]) ∧ Own w' w.heap.size 5 1 (.slice ao t.length ac) t.length (byc t) ∧ Own w' w.heap.size 3 1 (.slice bo nums.length bc) nums.length (mkN nums) ∧ Own w' w.heap.size 9 1 (.slice co st.length cc) st.length (stc st)) ∨ ((¬ ∃ k n nums u g t st, LineQ k n nums u g t st text) ∧ e = .returned (.tuple #[.agg lz7, .int .i64 220]))
theorem rnone_u {w : World} {p q : Value} : Calls Tryd.prog 62 #[p, q] w fun e w' => e = .returned (.tuple #[]) ∧ w' = w := by
  go_enter Tryd.func62, Tryd.ntmps62
  go_wp2
  go_end0
  exact ⟨rfl, rfl⟩
theorem readN {k : Nat} (k0 : k ≠ 0) (k4 : k ≠ 4) {w : World} {rb lb : Nat} {s : Option (List Int)} {c0 c1 c3 : Value} (h : RdO w rb s) (hs : Okl s) (hL : Blk w lb 38 #[c0, c1, .slice none 0 0, c3, .int .u64 0, .string ⟨#[]⟩, .slice none 0 0]) :
    Calls Tryd.prog 62 #[.pointer (some ⟨rb, 0, none⟩), .pointer (some ⟨lb, 0, none⟩)] w fun e w' => ∃ u g t ao ac st co cc s', e = .returned (.tuple #[]) ∧ AskI w rb lb c0 c1 c3 u g t ao ac st co cc s' w' ∧ u < 18446744073709551616 ∧ TailR k s u g t st s' := by
  refine rnone_u.mono ?_
  rintro e w' ⟨rfl, rfl⟩
  exact ⟨0, [], [], none, 0, [], none, 0, s, rfl, ⟨h, hL, own_nil _ _ _ _ _, own_nil _ _ _ _ _, Chg.refl _ _, hs⟩, by omega, by unfold TailR; rw [if_neg k0, if_neg k4]; exact ⟨rfl, rfl, rfl, rfl, rfl⟩⟩
set_option maxRecDepth 20000 in
theorem readT {w : World} {rb lb : Nat} {s : Option (List Int)} {c0 c1 c3 : Value} (h : RdO w rb s) (hs : Okl s) (h6 : 6 ≤ rb) (hE : Env w) (hL : Blk w lb 38 #[c0, c1, .slice none 0 0, c3, .int .u64 0, .string ⟨#[]⟩, .slice none 0 0]) (hne : lb ≠ rb) :
    Calls Tryd.prog 65 #[.pointer (some ⟨rb, 0, none⟩), .pointer (some ⟨lb, 0, none⟩)] w fun e w' => ∃ u g t ao ac st co cc s', e = .returned (.tuple #[]) ∧ AskI w rb lb c0 c1 c3 u g t ao ac st co cc s' w' ∧ u < 18446744073709551616 ∧ TailR 4 s u g t st s' := by
  have H1 := hidd (lit_u h hs h6 hE)
  have HL := hidd hL
  have HS := hidd hs
  clear h hE hL hs
  go_enter Tryd.func65, Tryd.ntmps65
  go_wp2_with (go_at_call 79; with_reducible refine (H1.out).mono ?_; rintro e w1 ⟨t, s', ao, ac, rfl, hbt, hlt, q1, r1, o1, k1⟩; have L1 := HL.out.chg k1 hne; have y2 := L1.cell 2; have z2 := L1.frozen 2; simp at y2)
  go_end0
  have L2 := L1.put 2 (.slice ao t.length ac)
  simp at L2
  have cs := Chg.of_set w1 lb 2 (.slice ao t.length ac)
  exact ⟨0, [], t, ao, ac, [], none, 0, s', rfl, ⟨r1.chg cs (fun e => hne e.symm), L2, o1.chg cs (fun x hx e => by subst e; exact o1.ne_blk L1 (by decide) hx), own_nil _ _ _ _ _, (k1.imp (fun _ _ h => Or.inl h)).trans cs (fun _ _ h => .inr h), HS.out.lit q1⟩, by omega, by unfold TailR; rw [if_neg (by decide), if_pos rfl]; exact ⟨rfl, rfl, rfl, q1⟩⟩
theorem readA {w : World} {rb lb : Nat} {s : Option (List Int)} {c0 c1 c3 : Value} (h : RdO w rb s) (hs : Okl s) (h6 : 6 ≤ rb) (h6l : 6 ≤ lb) (hE : Env w) (hL : Blk w lb 38 #[c0, c1, .slice none 0 0, c3, .int .u64 0, .string ⟨#[]⟩, .slice none 0 0]) (hne : lb ≠ rb) :
    Calls Tryd.prog 59 #[.pointer (some ⟨rb, 0, none⟩), .pointer (some ⟨lb, 0, none⟩)] w fun e w' => ∃ u g t ao ac st co cc s', e = .returned (.tuple #[]) ∧ AskI w rb lb c0 c1 c3 u g t ao ac st co cc s' w' ∧ u < 18446744073709551616 ∧ TailR 0 s u g t st s' := by
  refine (rask_u h hs h6 h6l hE hL hne).mono ?_
  rintro e w' ⟨u, g, t, ao, ac, st, co, cc, s1, s2, s3, s4, rfl, hI, hu, q1, q2, q3, q4, q5⟩
  exact ⟨u, g, t, ao, ac, st, co, cc, s4, rfl, hI, hu, by unfold TailR; rw [if_pos rfl]; exact ⟨s1, s2, s3, q1, q2, q3, q4, q5⟩⟩
end Go.Proofs.YtemmghneohnigaaDoor
