import Derived.Test.YtilghknalbhacaaJAT
import Derived.Test.YtilghknalbhacaaLFX
import Derived.Test.YtilghknalbhacaaEVX
import Derived.Lib.SlBytesConst
namespace Go.Proofs.Ytilghknalbhacaa
open Go.RowKit
/-! Decode. -/
theorem results_cell_two {P : Program} {fn : Func} {p q : Tmp} {ty : TypeId} (h : fn.results = #[.cell p ty, .tmp q]) (tmps : Array Value) (w : World) (g : Nat) (t : TypeId) (cs : Array Value) (fr : Nat × Nat) (d : TypeDesc)
    (hp : tmps.getD p undef = .pointer (some ⟨g, 0, none⟩)) (v : Value) (hq : tmps.getD q undef = v) (hg : w.heap[g]? = some (.cells cs t fr))
    (hu : P.underlying ty = some d) (hd : (match d with | .struct _ | .array _ _ => true | _ => false) = true) (hi : (P.info? ty).map (·.size) = some cs.size) :
    (results fn tmps).run P w = .ok (.tuple #[.agg cs, v]) w := by
  have hp' : tmps[p]?.getD undef = .pointer (some ⟨g, 0, none⟩) := by simpa using hp
  have hq' : tmps[q]?.getD undef = v := by simpa using hq
  simp [results, h, hp', hq', asAddr, run_loadVar_row w g t ty cs fr d hg hu hd hi]
theorem WtO.move {wx wy : World} {b0 b1 : Nat} {x : WtD} (h : WtO wx b0 x) (k : ∀ {e : TypeId} {sz n : Nat} {v : Value} {cs : Nat → Value}, Own wx b0 e sz v n cs → Own wy b1 e sz v n cs) : WtO wy b1 x :=
  ⟨k h.oE, k h.oQ, k h.oF, k h.oT, k h.oY, k h.oM, fun j hj => ⟨k (h.dY j hj).n1, k (h.dY j hj).n2, fun q hq => k ((h.dY j hj).mt q hq)⟩, fun j hj => k (h.dM j hj)⟩
theorem WtO.fresh {wx wy : World} {b0 : Nat} {x : WtD} (h : WtO wx b0 x) (f : Below wx.heap.size wx wy) : WtO wy b0 x := h.move (fun ho => ho.kept f)
theorem WtO.weaken {wx : World} {b0 b1 : Nat} {x : WtD} (h : WtO wx b0 x) (k : b1 ≤ b0) : WtO wx b1 x := h.move (fun ho => Own.weaken ho k)
theorem WtO.chg {wx wy : World} {b0 : Nat} {x : WtD} {T : Nat → Prop} (h : WtO wx b0 x) (c : Chg wx wy T) (hT : ∀ b, b0 ≤ b → ¬ T b) : WtO wy b0 x := h.move (fun ho => ho.chg c (fun b e => hT b (ho.lt b e).1))
/-- weights of one's own are readable -/
theorem WtO.rd {wx : World} {b0 : Nat} {x : WtD} (h : WtO wx b0 x) (i : WtI x) : WtR wx x := by
  have hY := Own.rda h.oY
  have hM := Own.rda h.oM
  refine ⟨⟨Own.rda h.oE, i.E⟩, Own.rda h.oT, ⟨Own.rda h.oF, i.F⟩, ⟨Own.rda h.oQ, i.Q⟩, hY.le, hY.top, fun h0 => ?_, fun k hk => ?_, hM.le, hM.top, fun h0 => ?_, fun k hk => ⟨Own.rda (h.dM k hk), i.m k hk⟩⟩
  · obtain ⟨b, off, e, hc⟩ := hY.at_ h0
    refine ⟨b, off, e, fun k hk => lyC_of (fun t ht => ?_)⟩
    rw [Nat.add_assoc, hc (k * 30 + t) (by omega)]
    unfold lyc
    rw [show (k * 30 + t) / 30 = k by omega, show (k * 30 + t) % 30 = t by omega]
  · have m : ∀ q, q < 7 → MtR wx (mtI (x.ly k) q) := fun q hq => ⟨Own.rda ((h.dY k hk).mt q hq), i.ym k hk q hq⟩
    exact ⟨⟨Own.rda (h.dY k hk).n1, i.y1 k hk⟩, ⟨Own.rda (h.dY k hk).n2, i.y2 k hk⟩, m 0 (by decide), m 1 (by decide), m 2 (by decide), m 3 (by decide), m 4 (by decide), m 5 (by decide), m 6 (by decide)⟩
  · obtain ⟨b, off, e, hc⟩ := hM.at_ h0
    refine ⟨b, off, e, fun k hk => ⟨?_, ?_, ?_⟩⟩
    · have := hc (k * 3) (by omega)
      unfold mtc at this
      rw [show (k * 3) / 3 = k by omega, show (k * 3) % 3 = 0 by omega] at this
      exact this
    · have := hc (k * 3 + 1) (by omega)
      unfold mtc at this
      rw [show (k * 3 + 1) / 3 = k by omega, show (k * 3 + 1) % 3 = 1 by omega] at this
      rw [Nat.add_assoc]
      exact this
    · have := hc (k * 3 + 2) (by omega)
      unfold mtc at this
      rw [show (k * 3 + 2) / 3 = k by omega, show (k * 3 + 2) % 3 = 2 by omega] at this
      rw [Nat.add_assoc]
      exact this
/-- what Decode answers -/
def DecP (w w' : World) (B : List Int) (e : Ending) : Prop := Below w.heap.size w w' ∧ ((∃ x, e = .returned (.tuple #[.agg (wtA x), .int .i64 0]) ∧ WtO w' w.heap.size x ∧ WtI x ∧ x.may ∧ WtP x ∧ B = fileL x) ∨ (e = .returned (.tuple #[.agg wtZ.toArray, .int .i64 42]) ∧ ∀ y, y.may → WtP y → WtI y → B ≠ fileL y))
theorem wrap64_nat {n : Nat} (h : n ≤ 9223372036854775807) : wrap64 (n : Int) = (n : Int) := by unfold wrap64; omega
theorem wrapi_nat {n : Nat} (h : n ≤ 9223372036854775807) : IntKind.i64.wrap (n : Int) = (n : Int) := wrap_small _ (by omega) (by omega)
theorem take_rd {w w9 : World} {ao : Option Addr} {cap q : Nat} {B : List Int} (h : RdA w ao 1 B.length cap (bV B)) (f : Below w.heap.size w w9) (hq : q ≤ B.length) : RdA w9 ao 1 q cap (bV (B.take q)) := by
  refine ⟨Nat.le_trans hq h.le, h.top, fun h0 => ?_⟩
  obtain ⟨b9, o9, e9, hc⟩ := h.at_ (Nat.lt_of_lt_of_le h0 hq)
  exact ⟨b9, o9, e9, fun j hj => by rw [← bV_take _ _ (by omega)]; exact fresh_cell f (hc j (by omega))⟩
theorem last_of {w w9 : World} {ao : Option Addr} {cap q : Nat} {B : List Int} (h : RdA w ao 1 B.length cap (bV B)) (hB : Byt B) (f : Below w.heap.size w w9) (hq : q ≤ B.length) : Calls Try.prog 34 #[.slice ao q cap] w9 fun e w' => ∃ u k, e = .returned (.slice u (lastL (B.take q)).length k) ∧ RdA w' u 1 (lastL (B.take q)).length k (bV (lastL (B.take q))) ∧ Below w9.heap.size w9 w' := by
  have hl : (B.take q).length = q := by rw [List.length_take]; exact Nat.min_eq_left hq
  have hrd : RdA w9 ao 1 (B.take q).length cap (bV (B.take q)) := by
    rw [hl]
    exact take_rd h f hq
  have := lastSec_any hrd (fun z hz => hB z (List.mem_of_mem_take hz))
  rw [hl] at this
  refine this.mono ?_
  rintro e w' ⟨v, rfl, hv, hf⟩
  obtain ⟨u, k, rfl, hr⟩ := hv.rd
  exact ⟨u, k, rfl, hr, hf⟩
theorem rdr_start {w : World} {ao : Option Addr} {cap : Nat} {B : List Int} (h : RdA w ao 1 B.length cap (bV B)) (hB : Byt B) : ∃ bb, bb < w.heap.size + 1 ∧ ∀ o, Rdr ((w.alloc o).alloc (.cells #[.slice ao B.length cap, .bool false] 70)) (w.heap.size + 1) bb B 0 false := by
  obtain ⟨bb, h1, h2⟩ : ∃ bb, bb < w.heap.size + 1 ∧ ∀ b o, ao = some ⟨b, o, none⟩ → 0 < B.length → b = bb := by
    by_cases h0 : 0 < B.length
    · obtain ⟨b, o, e, hc⟩ := h.at_ h0
      refine ⟨b, ?_, fun b' o' e' _ => by rw [e] at e'; cases e'; rfl⟩
      have := lt_of_cell (hc 0 (by omega))
      omega
    · exact ⟨w.heap.size, by omega, fun _ _ _ h => absurd h h0⟩
  refine ⟨bb, h1, fun o => ⟨⟨ao, cap, ?_, ?_, fun b o e k => h2 b o e (by omega)⟩, by omega, Nat.zero_le _, hB⟩⟩
  · have hr := World.rowIs_list (w.alloc o) [.slice ao B.length cap, .bool false] 70
    rw [World.size_alloc] at hr
    refine hr.congr (fun i hi => ?_)
    have : i = 0 ∨ i = 1 := by have : i < 2 := hi; omega
    rcases this with rfl | rfl <;> rfl
  · exact h.fresh (fresh_trans (fresh_alloc _ _) (fresh_alloc _ _))
/-- what stays while Decode goes on -/
structure Ds (w wx : World) : Prop where
  res : wx.rowIs w.heap.size 34 18 (fun i => wtZ.getD i undef)
  low : Below w.heap.size w wx
theorem Ds.call {w wx wy : World} {T : Nat → Prop} (h : Ds w wx) (c : Chg wx wy T) (hT : ∀ b, T b → w.heap.size < b) : Ds w wy := ⟨c.row h.res (fun t => by have := hT _ t; omega), c.below h.low h.low.size (fun x t => by have := hT x t; omega)⟩
theorem Ds.fresh {w wx wy : World} (h : Ds w wx) (f : Below wx.heap.size wx wy) : Ds w wy := h.call (Chg.of_below (fun _ => False) f) (fun _ t => t.elim)
theorem ds_start (w : World) (o : Obj) : Ds w ((w.alloc (.cells #[.int .i64 0, .int .i64 0, .int .i64 0, .int .i64 0, .int .i64 0, .int .i64 0, .int .i64 0, .int .i64 0, .int .i64 0, .int .i64 0, .slice none 0 0, .slice none 0 0, .slice none 0 0, .slice none 0 0, .int .i64 0, .int .i64 0, .slice none 0 0, .slice none 0 0] 34)).alloc o) := ⟨(World.rowIs_list w wtZ 34).alloc o, fresh_trans (fresh_alloc _ _) (fresh_alloc _ _)⟩
/-! Why bytes are no file. -/
theorem cfL_eq {M : List Int} (hM : Byt M) (hl : M.length = 8) : M = cfL (M.getD 0 0) (M.getD 1 0) (M.getD 2 0) (M.getD 3 0) (M.getD 4 0) (M.getD 5 0) (M.getD 6 0) (M.getD 7 0) := by
  match M, hl with
  | [a, b, c, d, e, f, g, h], _ =>
    have k : ∀ x, x ∈ [a, b, c, d, e, f, g, h] → x % 256 = x := fun x hx => by have := hM x hx; omega
    show [a, b, c, d, e, f, g, h] = [a % 256, b % 256, c % 256, d % 256, e % 256, f % 256, g % 256, h % 256]
    rw [k a (by simp), k b (by simp), k c (by simp), k d (by simp), k e (by simp), k f (by simp), k g (by simp), k h (by simp)]
def headS : List Int → Prop := Two (fun X => X = beginL) (SecS 67 8)
theorem headS_of (y : WtD) : headS (headL y) := ⟨beginL, _, rfl, rfl, _, rfl, rfl⟩
theorem headL_len (y : WtD) : (headL y).length = 19 := rfl
theorem file_pre (y : WtD) : headL y <+: fileL y := ⟨midL y ++ lastL (headL y ++ midL y), by rw [file_eq, List.append_assoc]⟩
theorem head_bad {B : List Int} {q : Nat} {X : List Int} (h : RdS B 0 false q true X headS) : ∀ y, B ≠ fileL y := fun y e => by
  have := h.all (headL y) (headS_of y) rfl (by rw [e]; exact file_pre y)
  cases this
theorem mod_id {x : Int} (h : 0 ≤ x ∧ x ≤ 255) : x % 256 = x := by omega
theorem head_same {B : List Int} {q : Nat} {M : List Int} (hl : M.length = 8) (h : RdS B 0 false q false (beginL ++ secL 67 M) headS) {y : WtD} (hm : y.may) (e : B = fileL y) : M.getD 0 0 = y.V ∧ M.getD 1 0 = y.W ∧ M.getD 2 0 = y.H ∧ M.getD 3 0 = y.K ∧ M.getD 4 0 = y.L ∧ M.getD 5 0 = y.D ∧ M.getD 6 0 = y.N ∧ M.getD 7 0 = y.M := by
  have g := (h.good rfl).2
  rw [List.drop_zero, e, file_eq, List.append_assoc] at g
  obtain ⟨g1, _⟩ := pre_same g (by rw [headL_len, List.length_append, secL_len, hl]; rfl)
  obtain ⟨_, g2⟩ := pre_same g1 rfl
  have g3 := secL_inj g2 (by rw [hl]; rfl)
  obtain ⟨⟨v0, v1⟩, ⟨w0, w1⟩, ⟨h0, h1⟩, _, ⟨k0, k1⟩, _, ⟨l0, l1⟩, ⟨d0, d1⟩, ⟨n0, n1⟩, ⟨m0, m1⟩⟩ := hm
  rw [← g3]
  exact ⟨mod_id (by omega), mod_id (by omega), mod_id (by omega), mod_id (by omega), mod_id (by omega), mod_id (by omega), mod_id (by omega), mod_id (by omega)⟩
/-- where the bytes are a file, all of it is met -/
theorem file_met {B : List Int} {q : Nat} {bd : Bool} {V H K L D N M kv : Int} {nW nL nM tn P a b c : Nat} {x y : WtD} (hy : WtL V H K L D N M kv nW nL nM tn P a b c y) (h : RdS B 0 false q bd (headL x ++ midL x) (Two headS (ShM nW nL nM tn P a b c))) (e : B = fileL y) : bd = false ∧ headL y ++ midL y = headL x ++ midL x ∧ B.drop q = lastL (headL x ++ midL x) ∧ B.take q = headL x ++ midL x := by
  have hb : bd = false := h.all (headL y ++ midL y) ⟨_, _, rfl, headS_of y, hy.shm⟩ rfl ⟨lastL (headL y ++ midL y), by rw [e, List.drop_zero, ← file_eq]⟩
  have g := (h.good hb).2
  have hl := h.len (headL y ++ midL y) ⟨_, _, rfl, headS_of y, hy.shm⟩
  rw [List.drop_zero] at g
  have g2 := g
  rw [e, file_eq] at g2
  obtain ⟨g3, g4⟩ := pre_same g2 hl
  refine ⟨hb, g3, by rw [e, file_eq, ← g4, g3], ?_⟩
  have hq : (headL x ++ midL x).length = q := by
    have := congrArg List.length g
    rw [List.length_append, List.length_drop] at this
    have := h.le
    omega
  conv => lhs; rw [g]
  rw [← hq, List.take_left]
theorem take_of {B X : List Int} {q : Nat} {S : List Int → Prop} (h : RdS B 0 false q false X S) : B.take q = X := by
  have g := (h.good rfl).2
  rw [List.drop_zero] at g
  have hq : X.length = q := by
    have := congrArg List.length g
    rw [List.length_append, List.length_drop] at this
    have := h.le
    omega
  conv => lhs; rw [g]
  rw [← hq, List.take_left]
theorem end_bad {B LL : List Int} {q7 : Nat} {bd7 : Bool} (h : true = (bd7 || !metB B LL q7)) (h7 : bd7 = false) (hd : B.drop q7 = LL) : False := by
  have hm : metB B LL q7 = true := met_iff.2 ⟨[], by rw [hd, List.append_nil]⟩
  rw [h7, hm] at h
  cases h
theorem end_rest {B LL : List Int} {q7 q8 n : Nat} {bd7 : Bool} (hn : n = B.length - q8) (hz : ¬ n = 0) (h : RdS B q7 bd7 q8 false LL (fun X => X = LL)) (hd : B.drop q7 = LL) : False := by
  have g := (h.good rfl).2
  rw [hd] at g
  have := congrArg List.length g
  rw [List.length_append, List.length_drop] at this
  omega
theorem end_ok {B LL : List Int} {q7 q8 : Nat} {bd7 : Bool} {x : WtD} {S : List Int → Prop} (h7 : RdS B 0 false q7 bd7 (headL x ++ midL x) S) (h8 : RdS B q7 bd7 q8 false LL (fun X => X = LL)) (hn : 0 = B.length - q8) (hl : LL = lastL (B.take q7)) : B = fileL x := by
  obtain ⟨e, g⟩ := h8.good rfl
  subst e
  have ht := take_of h7
  have h0 : B.drop q8 = [] := List.drop_eq_nil_of_le (by omega)
  rw [h0, List.append_nil, hl, ht] at g
  rw [file_eq]
  exact (List.take_append_drop q7 B).symm.trans (by rw [g, ht])
set_option maxRecDepth 20000 in
set_option maxHeartbeats 8000000 in
theorem decode_any {w : World} {ao : Option Addr} {cap : Nat} {B : List Int} (h : RdA w ao 1 B.length cap (bV B)) (hB : Byt B) :
    Calls Try.prog 13 #[.slice ao B.length cap] w fun e w' => DecP w w' B e := by
  obtain ⟨bb, hbl, hst⟩ := rdr_start h hB
  have HR0 := hidd (hst (.cells #[.int .i64 0, .int .i64 0, .int .i64 0, .int .i64 0, .int .i64 0, .int .i64 0, .int .i64 0, .int .i64 0, .int .i64 0, .int .i64 0, .slice none 0 0, .slice none 0 0, .slice none 0 0, .slice none 0 0, .int .i64 0, .int .i64 0, .slice none 0 0, .slice none 0 0] 34))
  have HD0 := hidd (ds_start w (.cells #[.slice ao B.length cap, .bool false] 70))
  have HAO := hidd h
  have n1 := h.le
  have n2 := h.top
  unfold maxLen at n2
  have HSZ : Hid (((w.alloc (.cells #[.int .i64 0, .int .i64 0, .int .i64 0, .int .i64 0, .int .i64 0, .int .i64 0, .int .i64 0, .int .i64 0, .int .i64 0, .int .i64 0, .slice none 0 0, .slice none 0 0, .slice none 0 0, .slice none 0 0, .int .i64 0, .int .i64 0, .slice none 0 0, .slice none 0 0] 34)).alloc (.cells #[.slice ao B.length cap, .bool false] 70)).heap.size = w.heap.size + 2) := by simp [Hid]
  obtain ⟨nB, HNB⟩ : ∃ n, Hid (n = B.length) := ⟨_, rfl⟩
  rw [← HNB.out] at HR0 HD0 HSZ n1 ⊢
  clear h hst
  go_enter Try.func13, Try.ntmps13
  go_upto_region 2 with fail
  generalize ((w.alloc (.cells #[.int .i64 0, .int .i64 0, .int .i64 0, .int .i64 0, .int .i64 0, .int .i64 0, .int .i64 0, .int .i64 0, .int .i64 0, .int .i64 0, .slice none 0 0, .slice none 0 0, .slice none 0 0, .slice none 0 0, .int .i64 0, .int .i64 0, .slice none 0 0, .slice none 0 0] 34)).alloc (.cells #[.slice ao nB cap, .bool false] 70)) = w2 at *
  have hcv : (convert 35 35 (.slice (some ⟨w2.heap.size, 0, none⟩) 6 6)).run Try.prog (w2.alloc (.cells #[.int .u8 97, .int .u8 117, .int .u8 103, .int .u8 117, .int .u8 114, .int .u8 1] 5)) = .ok (.slice (some ⟨w2.heap.size, 0, none⟩) 6 6) (w2.alloc (.cells #[.int .u8 97, .int .u8 117, .int .u8 103, .int .u8 117, .int .u8 114, .int .u8 1] 5 (6, 7))) := Lib.run_convert_bytes_const w2 35 5 #[.int .u8 97, .int .u8 117, .int .u8 103, .int .u8 117, .int .u8 114, .int .u8 1] 6 6 Try.underlying35 Try.underlying5
  have fb := fresh_alloc w2 (.cells #[.int .u8 97, .int .u8 117, .int .u8 103, .int .u8 117, .int .u8 114, .int .u8 1] 5 (6, 7))
  obtain ⟨gg, hge, hgc⟩ := full_newL w2 beginL 5 (6, 7)
  have hgg : gg = w2.heap.size := by injection hge with h1 _ _; injection h1 with h2; injection h2 with h3; exact h3.symm
  subst hgg
  have hL6 : RdA (w2.alloc (.cells #[.int .u8 97, .int .u8 117, .int .u8 103, .int .u8 117, .int .u8 114, .int .u8 1] 5 (6, 7))) (some ⟨w2.heap.size, 0, none⟩) 1 beginL.length 6 (bV beginL) := ⟨by decide, by unfold maxLen; omega, fun _ => ⟨_, 0, rfl, fun j hj => by rw [Nat.zero_add]; exact hgc j (by omega)⟩⟩
  have HMB : Hid (Calls Try.prog 35 #[.pointer (some ⟨w.heap.size + 1, 0, none⟩), .slice (some ⟨w2.heap.size, 0, none⟩) 6 6] (w2.alloc (.cells #[.int .u8 97, .int .u8 117, .int .u8 103, .int .u8 117, .int .u8 114, .int .u8 1] 5 (6, 7))) fun e w' => e = .returned (.tuple #[]) ∧ RdP w2 w' (w.heap.size + 1) bb B 0 false beginL (fun X => X = beginL)) := (meet_any (HR0.out.fresh fb) hL6 begin_byt (by decide)).mono (fun _ _ ⟨e, h1, h2⟩ => ⟨e, ⟨_, _, RdS.met false (Nat.zero_le _), h1⟩, Chg.pre fb h2⟩)
  clear fb hge hgc hL6
  go_upto_region 3 with (go_at_call 35; refine HMB.out.mono ?_; rintro e w3 ⟨rfl, hp⟩; have HP3 := hidd hp; clear hp)
  obtain ⟨p3, bd3, hS3, hR3⟩ := HP3.out.ex
  have HD3 := hidd (HD0.out.call HP3.out.chg (fun b e => by omega))
  have HS3 := hidd hS3
  have HBD := hidd (body_any hR3 (c := 67) (by decide) (n := 8) (by decide) (by decide))
  have hsz3 : w.heap.size + 2 ≤ w3.heap.size := by have := HP3.out.chg.size; have := HSZ.out; omega
  clear hcv HMB HP3 hS3 hR3 HR0 HD0 HSZ
  go_upto_region 4 with (first
    | (go_at_call 37; refine HBD.out.mono ?_; rintro e w4 ⟨ao4, k4, rfl, Mb, hl4, hb4, hrd4, hp4⟩; have HP4 := hidd hp4; have HL4 := hidd hl4; have HB4 := hidd hb4; have HCF := hidd (cfgof_any hrd4 hb4); clear hp4 hl4 hb4 hrd4; obtain ⟨V, eV⟩ : ∃ z, Hid (z = Mb.getD 0 0) := ⟨_, rfl⟩; obtain ⟨U, eU⟩ : ∃ z, Hid (z = Mb.getD 1 0) := ⟨_, rfl⟩; obtain ⟨H, eH⟩ : ∃ z, Hid (z = Mb.getD 2 0) := ⟨_, rfl⟩; obtain ⟨K, eK⟩ : ∃ z, Hid (z = Mb.getD 3 0) := ⟨_, rfl⟩; obtain ⟨L, eL⟩ : ∃ z, Hid (z = Mb.getD 4 0) := ⟨_, rfl⟩; obtain ⟨D, eD⟩ : ∃ z, Hid (z = Mb.getD 5 0) := ⟨_, rfl⟩; obtain ⟨N, eN⟩ : ∃ z, Hid (z = Mb.getD 6 0) := ⟨_, rfl⟩; obtain ⟨M, eM⟩ : ∃ z, Hid (z = Mb.getD 7 0) := ⟨_, rfl⟩; rw [← eV.out, ← eU.out, ← eH.out, ← eK.out, ← eL.out, ← eD.out, ← eN.out, ← eM.out] at HCF)
    | (go_at_call 36; refine HCF.out.mono ?_; rintro e w5 ⟨rfl, f5⟩; have F5 := hidd f5; clear f5))
  obtain ⟨q4, bd4, hS4, hR4⟩ := HP4.out.ex
  have HD4 := hidd ((HD3.out.call HP4.out.chg (fun b e => by omega)).fresh F5.out)
  have hsz5 : w.heap.size + 2 ≤ w5.heap.size := by have := HP4.out.chg.size; have := F5.out.size; omega
  have HS4 : Hid (RdS B 0 false q4 bd4 (beginL ++ secL 67 Mb) headS) := HS3.out.trans hS4
  have HG6 := hidd (heap_new w5 (.cells #[.int .i64 V, .int .i64 U, .int .i64 H, .int .i64 K, .int .i64 L, .int .i64 D, .int .i64 N, .int .i64 M] 23))
  have f6 := fresh_alloc w5 (.cells #[.int .i64 V, .int .i64 U, .int .i64 H, .int .i64 K, .int .i64 L, .int .i64 D, .int .i64 N, .int .i64 M] 23)
  have HD6 := hidd (HD4.out.fresh f6)
  have HR6 := hidd ((hR4.fresh F5.out).fresh f6)
  have hsz6 : (w5.alloc (.cells #[.int .i64 V, .int .i64 U, .int .i64 H, .int .i64 K, .int .i64 L, .int .i64 D, .int .i64 N, .int .i64 M] 23)).heap.size = w5.heap.size + 1 := by simp
  have HSZ6 := hidd hsz6
  clear hS4 hR4 HP4 HD4 HD3 HS3 HBD HCF F5 f6 hsz6
  generalize (w5.alloc (.cells #[.int .i64 V, .int .i64 U, .int .i64 H, .int .i64 K, .int .i64 L, .int .i64 D, .int .i64 N, .int .i64 M] 23)) = w6 at *
  have HCELLS : Hid (∀ j, j < 8 → w6.cell? ⟨w5.heap.size, j, none⟩ = some (.int .i64 ([V, U, H, K, L, D, N, M].getD j 0))) := fun j hj => by
    rw [cell_heap HG6.out j]
    match j, hj with
    | 0, _ | 1, _ | 2, _ | 3, _ | 4, _ | 5, _ | 6, _ | 7, _ => rfl
  obtain ⟨ao6, c6, hr6, _, _⟩ := HR6.out.ex
  have r1 : w6.cell? ⟨w.heap.size + 1, 1, none⟩ = some (.bool bd4) := hr6.cell (i := 1) (by decide)
  clear hr6 HG6
  cases bd4
  case true =>
    clear HCELLS HR6 HSZ6
    obtain ⟨old, hold, hosz, _⟩ := HD6.out.res
    have HOLD := hidd hold
    have HOSZ : Hid (old.size = wtZ.toArray.size) := hosz
    have HLOW := hidd HD6.out.low
    clear hold hosz
    have SZZ : Hid ((Try.prog.info? 34).map (·.size) = some wtZ.toArray.size) := sizeW
    have OZZ : Hid (wtZ.toArray.all (·.oneCell') = true) := by show _ = _; kernel_rfl
    obtain ⟨ZZ, hZZ⟩ : ∃ Z, Z = wtZ.toArray := ⟨_, rfl⟩
    go_wp2_with (refine wpList_store_row rfl 34 _ _ rfl w.heap.size wtZ.toArray rfl rfl 34 old HOLD.out SZZ.out HOSZ.out OZZ.out ?_)
    refine bodyPost_ret (v := .tuple #[.agg wtZ.toArray, .int .i64 42]) ?_ ?_ ?_
    · exact results_cell_two Try.results13 _ _ w.heap.size 34 _ (0, 0) _ rfl _ rfl (setRow_heap _ _ _ _ _ _ HOLD.out) Try.underlying34 rfl SZZ.out
    · rfl
    · exact ⟨below_setRow HLOW.out (Nat.le_refl _) _, .inr ⟨rfl, fun y _ _ _ => head_bad HS4.out y⟩⟩

  case false =>
    have c0 : w6.cell? ⟨w5.heap.size, 0, none⟩ = some (.int .i64 V) := HCELLS.out 0 (by decide)
    have c1 : w6.cell? ⟨w5.heap.size, 1, none⟩ = some (.int .i64 U) := HCELLS.out 1 (by decide)
    have c2 : w6.cell? ⟨w5.heap.size, 2, none⟩ = some (.int .i64 H) := HCELLS.out 2 (by decide)
    have c3 : w6.cell? ⟨w5.heap.size, 3, none⟩ = some (.int .i64 K) := HCELLS.out 3 (by decide)
    have c4 : w6.cell? ⟨w5.heap.size, 4, none⟩ = some (.int .i64 L) := HCELLS.out 4 (by decide)
    have c5 : w6.cell? ⟨w5.heap.size, 5, none⟩ = some (.int .i64 D) := HCELLS.out 5 (by decide)
    have c6' : w6.cell? ⟨w5.heap.size, 6, none⟩ = some (.int .i64 N) := HCELLS.out 6 (by decide)
    have c7 : w6.cell? ⟨w5.heap.size, 7, none⟩ = some (.int .i64 M) := HCELLS.out 7 (by decide)
    by_cases hmay : may V U H K L D N M
    case neg =>
      have HCK : Hid (Calls Try.prog 9 #[.agg #[.int .i64 V, .int .i64 U, .int .i64 H, .int .i64 K, .int .i64 L, .int .i64 D, .int .i64 N, .int .i64 M]] w6 fun e w' => e = .returned (.int .i64 40) ∧ Below w6.heap.size w6 w') := by have := config_any V U H K L D N M w6; rw [mayE_no hmay] at this; exact this
      have HNM := hidd hmay
      clear hmay
      go_upto_region 5 with (go_at_call 9; refine HCK.out.mono ?_; rintro e w7 ⟨rfl, f7⟩; have HD7 := hidd (HD6.out.fresh f7); clear f7)
      obtain ⟨old, hold, hosz, _⟩ := HD7.out.res
      have HOLD := hidd hold
      have HOSZ : Hid (old.size = wtZ.toArray.size) := hosz
      have HLOW := hidd HD7.out.low
      clear hold hosz
      have SZZ : Hid ((Try.prog.info? 34).map (·.size) = some wtZ.toArray.size) := sizeW
      have OZZ : Hid (wtZ.toArray.all (·.oneCell') = true) := by show _ = _; kernel_rfl
      obtain ⟨ZZ, hZZ⟩ : ∃ Z, Z = wtZ.toArray := ⟨_, rfl⟩
      go_wp2_with (refine wpList_store_row rfl 34 _ _ rfl w.heap.size wtZ.toArray rfl rfl 34 old HOLD.out SZZ.out HOSZ.out OZZ.out ?_)
      refine bodyPost_ret (v := .tuple #[.agg wtZ.toArray, .int .i64 42]) ?_ ?_ ?_
      · exact results_cell_two Try.results13 _ _ w.heap.size 34 _ (0, 0) _ rfl _ rfl (setRow_heap _ _ _ _ _ _ HOLD.out) Try.underlying34 rfl SZZ.out
      · rfl
      · exact ⟨below_setRow HLOW.out (Nat.le_refl _) _, .inr ⟨rfl, fun y hy _ _ ey => by
          have k := head_same HL4.out HS4.out hy ey
          rw [← eV.out, ← eU.out, ← eH.out, ← eK.out, ← eL.out, ← eD.out, ← eN.out, ← eM.out] at k
          obtain ⟨k0, k1, k2, k3, k4, k5, k6, k7⟩ := k
          refine HNM.out ?_
          rw [k0, k1, k2, k3, k4, k5, k6, k7]
          exact hy⟩⟩

    case pos =>
      have HCK : Hid (Calls Try.prog 9 #[.agg #[.int .i64 V, .int .i64 U, .int .i64 H, .int .i64 K, .int .i64 L, .int .i64 D, .int .i64 N, .int .i64 M]] w6 fun e w' => e = .returned (.int .i64 0) ∧ Below w6.heap.size w6 w') := by have := config_any V U H K L D N M w6; rw [mayE_ok hmay] at this; exact this
      have HMAY := hidd hmay
      obtain ⟨kv, nW, nL, nM, tn, P, a, b, c, hU, hd⟩ := dm_of hmay
      have HDM := hidd hd
      have HU := hidd hU
      clear hmay hU hd
      go_upto_region 6 with (go_at_call 9; refine HCK.out.mono ?_; rintro e w7 ⟨rfl, f7⟩; have F7 := hidd f7; clear f7)
      have HD7 := hidd (HD6.out.fresh F7.out)
      have hsz7 : w.heap.size + 3 ≤ w7.heap.size := by have := F7.out.size; have := HSZ6.out; omega
      have HR7 := hidd (HR6.out.fresh F7.out)
      have HC7 : Hid (∀ j, j < 8 → w7.cell? ⟨w5.heap.size, j, none⟩ = some (.int .i64 ([V, U, H, K, L, D, N, M].getD j 0))) := fun j hj => fresh_cell F7.out (HCELLS.out j hj)
      clear c0 c1 c2 c3 c4 c5 c6' c7 r1 HCK HCELLS HR6 HD6 F7 HSZ6
      have c0 : w7.cell? ⟨w5.heap.size, 0, none⟩ = some (.int .i64 V) := HC7.out 0 (by decide)
      have c1 : w7.cell? ⟨w5.heap.size, 1, none⟩ = some (.int .i64 U) := HC7.out 1 (by decide)
      have c2 : w7.cell? ⟨w5.heap.size, 2, none⟩ = some (.int .i64 H) := HC7.out 2 (by decide)
      have c3 : w7.cell? ⟨w5.heap.size, 3, none⟩ = some (.int .i64 K) := HC7.out 3 (by decide)
      have c4 : w7.cell? ⟨w5.heap.size, 4, none⟩ = some (.int .i64 L) := HC7.out 4 (by decide)
      have c5 : w7.cell? ⟨w5.heap.size, 5, none⟩ = some (.int .i64 D) := HC7.out 5 (by decide)
      have c6' : w7.cell? ⟨w5.heap.size, 6, none⟩ = some (.int .i64 N) := HC7.out 6 (by decide)
      have c7 : w7.cell? ⟨w5.heap.size, 7, none⟩ = some (.int .i64 M) := HC7.out 7 (by decide)
      have HWT : Hid (Calls Try.prog 38 #[.pointer (some ⟨w.heap.size + 1, 0, none⟩), .agg #[.int .i64 V, .int .i64 U, .int .i64 H, .int .i64 K, .int .i64 L, .int .i64 D, .int .i64 N, .int .i64 M]] w7 fun e w' => ∃ x, e = .returned (.agg (wtA x)) ∧ WtW w7 w' (w.heap.size + 1) bb B q4 false V H K L D N M kv nW nL nM tn P a b c x) := by
        rw [HU.out]
        exact weights_any HR7.out (by omega) V H K L D N M kv nW nL nM tn P a b c HDM.out
      go_upto_region 7 with (first
        | (go_at_call 38; refine HWT.out.mono ?_; rintro e w8 ⟨x, rfl, hw⟩; have HW := hidd hw; clear hw; skip)
        | (refine wpList_store_row rfl 34 _ _ rfl w8.heap.size (wtA x) rfl rfl 34 _ (heap_new _ _) sizeW rfl (wtA_one _) ?_))
      try rw [World.setRow_alloc_new]
      try simp only [Act.put]
      obtain ⟨q7, bd7, hS7, hR7⟩ := HW.out.rdp.ex
      have hsz8 := HW.out.rdp.chg.size
      have f9 := fresh_alloc w8 (.cells (wtA x) 34)
      have HD9 := hidd ((HD7.out.call HW.out.rdp.chg (fun b e => by omega)).fresh f9)
      have HR9 := hidd (hR7.fresh f9)
      have HX9 := hidd (World.rowIs_list w8 (wtL x) 34)
      have HO9 := hidd ((HW.out.own.fresh f9).weaken (show w.heap.size + 3 ≤ w7.heap.size + 2 by omega))
      have HKN := hidd HW.out.kn
      have HHX : Hid (beginL ++ secL 67 Mb = headL x) := by
        obtain ⟨k0, k1, k2, k3, k4, k5, k6, k7⟩ := HW.out.kn.cf
        have e := cfL_eq HB4.out HL4.out
        rw [← eV.out, ← eU.out, ← eH.out, ← eK.out, ← eL.out, ← eD.out, ← eN.out, ← eM.out, HU.out] at e
        show _ = _
        unfold headL
        rw [k0, k1, k2, k3, k4, k5, k6, k7, ← e]
      have HS7 : Hid (RdS B 0 false q7 bd7 (headL x ++ midL x) (Two headS (ShM nW nL nM tn P a b c))) := by
        rw [← HHX.out]
        exact HS4.out.trans hS7
      have hq7 := hR7.le
      clear hS7 hR7 HWT c0 c1 c2 c3 c4 c5 c6' c7 f9 HD7 HR7 HC7
      have hw9 : w.heap.size + 3 ≤ (w8.alloc (.cells (wtA x) 34)).heap.size := by simp; omega
      change Hid ((w8.alloc (.cells (wtA x) 34)).rowIs w8.heap.size 34 18 (wtc x)) at HX9
      generalize (w8.alloc (.cells (wtA x) 34)) = w9 at *
      generalize w8.heap.size = xb at *
      have HXB : Hid (w.heap.size + 3 ≤ xb ∧ xb < w9.heap.size) := ⟨by omega, HX9.out.lt⟩
      obtain ⟨ao9, c9, hr9, hrd9, _⟩ := HR9.out.ex
      obtain ⟨nR, HNR⟩ : ∃ n, Hid (n = B.length - q7) := ⟨_, rfl⟩
      have r0 : w9.cell? ⟨w.heap.size + 1, 0, none⟩ = some (.slice ao9 nR c9) := by rw [HNR.out]; exact hr9.cell (i := 0) (by decide)
      have hqB : q7 ≤ nB := by rw [HNB.out]; exact hq7
      have hsub : (nB : Int) - (nR : Int) = (q7 : Int) := by have := HNR.out; have := HNB.out; omega
      have hqc : q7 ≤ cap := Nat.le_trans hqB n1
      have hq63 : q7 ≤ 9223372036854775807 := Nat.le_trans hqc n2
      have hw64 : wrap64 (q7 : Int) = (q7 : Int) := wrap64_nat hq63
      have hw65 : IntKind.i64.wrap (q7 : Int) = (q7 : Int) := wrapi_nat hq63
      have s0 : (0 : Int) ≤ (q7 : Int) := Int.natCast_nonneg q7
      have s1 : (q7 : Int) ≤ (cap : Int) := Int.ofNat_le.2 hqc
      obtain ⟨LL, HLL⟩ : ∃ l, Hid (l = lastL (B.take q7)) := ⟨_, rfl⟩
      have hLb : Byt LL := by rw [HLL.out]; exact secL_byt (by decide) (num_byt _ _)
      have hLl : LL.length = 13 := by rw [HLL.out]; unfold lastL; rw [secL_len, num_len]
      have HLS : Hid (Calls Try.prog 34 #[.slice ao q7 cap] w9 fun e w' => ∃ u k, e = .returned (.slice u LL.length k) ∧ RdA w' u 1 LL.length k (bV LL) ∧ Below w9.heap.size w9 w') := by
        rw [HLL.out]
        exact last_of HAO.out hB HD9.out.low hq7
      obtain ⟨nL', HNL'⟩ : ∃ n, Hid (n = LL.length) := ⟨_, rfl⟩
      have HMT : Hid (∀ u k w', Below w9.heap.size w9 w' → RdA w' u 1 LL.length k (bV LL) → Calls Try.prog 35 #[.pointer (some ⟨w.heap.size + 1, 0, none⟩), .slice u LL.length k] w' fun e w2 => e = .returned (.tuple #[]) ∧ Rdr w2 (w.heap.size + 1) bb B (metP B LL q7) (bd7 || !metB B LL q7) ∧ Chg w' w2 (fun b => b = w.heap.size + 1)) := fun u k w' hf hr => meet_any (HR9.out.fresh hf) hr hLb (by rw [hLl]; decide)
      rw [← HNL'.out] at HLS HMT
      clear hr9 hrd9
      go_upto_region 8 with (first
        | (go_at_call 34; refine HLS.out.mono ?_; rintro e w10 ⟨u10, k10, rfl, hr10, f10⟩; have HR10 := hidd hr10; have F10 := hidd f10; clear hr10 f10)
        | (go_at_call 35; refine (HMT.out _ _ _ F10.out HR10.out).mono ?_; rintro e w11 ⟨rfl, hr11, hc11⟩; have HR11 := hidd hr11; have HC11 := hidd hc11; clear hr11 hc11))
      have HY : Hid (∀ y, y.may → WtP y → WtI y → B = fileL y → bd7 = false ∧ B.drop q7 = LL ∧ Al x y nW nL nM tn P a b c ∧ WtL V H K L D N M kv nW nL nM tn P a b c y) := fun y hy hp hi ey => by
        have k := head_same HL4.out HS4.out hy ey
        rw [← eV.out, ← eU.out, ← eH.out, ← eK.out, ← eL.out, ← eD.out, ← eN.out, ← eM.out] at k
        obtain ⟨k0, k1, k2, k3, k4, k5, k6, k7⟩ := k
        have hyl := hp.l HDM.out ⟨k0.symm, by rw [← k1]; exact HU.out, k2.symm, k3.symm, k4.symm, k5.symm, k6.symm, k7.symm⟩
        obtain ⟨m1, m2, m3, m4⟩ := file_met hyl HS7.out ey
        have ml := (pre_same m2 (by rw [headL_len, headL_len])).2
        exact ⟨m1, by rw [HLL.out, m4]; exact m3, al_of HKN.out.l hyl HKN.out.i hi ml.symm, hyl⟩
      have HS8 := hidd (RdS.met (L := LL) bd7 hq7)
      have HD11 := hidd ((HD9.out.fresh F10.out).call HC11.out (fun b e => by omega))
      have HX11 : Hid (w11.rowIs xb 34 18 (wtc x)) := HC11.out.row (HX9.out.of_block (F10.out.block _ HX9.out.lt)) (by have := HXB.out.1; show ¬ xb = w.heap.size + 1; omega)
      have HO11 : Hid (WtO w11 (w.heap.size + 3) x) := (HO9.out.fresh F10.out).chg HC11.out (fun b hb e => by omega)
      have hxb := HXB.out.1
      obtain ⟨bd8, HB8⟩ : ∃ b, Hid (b = (bd7 || !metB B LL q7)) := ⟨_, rfl⟩
      obtain ⟨q8, HQ8⟩ : ∃ q, Hid (q = metP B LL q7) := ⟨_, rfl⟩
      rw [← HB8.out, ← HQ8.out] at HR11 HS8
      have hq8 := HR11.out.le
      obtain ⟨ao11, c11, hr11, _, _⟩ := HR11.out.ex
      obtain ⟨n11, HN11⟩ : ∃ n, Hid (n = B.length - q8) := ⟨_, rfl⟩
      have r0' : w11.cell? ⟨w.heap.size + 1, 0, none⟩ = some (.slice ao11 n11 c11) := by rw [HN11.out]; exact hr11.cell (i := 0) (by decide)
      have r1' : w11.cell? ⟨w.heap.size + 1, 1, none⟩ = some (.bool bd8) := hr11.cell (i := 1) (by decide)
      clear r0 hr11 HR11 HMT HLS hsub hw64 hw65 s0 s1 HR10 HC11 HX9 HO9 HR9 HD9 F10 HXB HW HNR
      clear hq63 hqc hqB hLb hLl hsz8 hw9 hsz7 hsz5 hsz3 n1 n2
      cases bd8
      case true =>
        obtain ⟨old, hold, hosz, _⟩ := HD11.out.res
        have HOLD := hidd hold
        have HOSZ : Hid (old.size = wtZ.toArray.size) := hosz
        have HLOW := hidd HD11.out.low
        clear hold hosz
        have SZZ : Hid ((Try.prog.info? 34).map (·.size) = some wtZ.toArray.size) := sizeW
        have OZZ : Hid (wtZ.toArray.all (·.oneCell') = true) := by show _ = _; kernel_rfl
        obtain ⟨ZZ, hZZ⟩ : ∃ Z, Z = wtZ.toArray := ⟨_, rfl⟩
        go_wp2_with (refine wpList_store_row rfl 34 _ _ rfl w.heap.size wtZ.toArray rfl rfl 34 old HOLD.out SZZ.out HOSZ.out OZZ.out ?_)
        refine bodyPost_ret (v := .tuple #[.agg wtZ.toArray, .int .i64 42]) ?_ ?_ ?_
        · exact results_cell_two Try.results13 _ _ w.heap.size 34 _ (0, 0) _ rfl _ rfl (setRow_heap _ _ _ _ _ _ HOLD.out) Try.underlying34 rfl SZZ.out
        · rfl
        · exact ⟨below_setRow HLOW.out (Nat.le_refl _) _, .inr ⟨rfl, fun y hy hp hi ey => end_bad HB8.out (HY.out y hy hp hi ey).1 (HY.out y hy hp hi ey).2.1⟩⟩

      case false =>
        by_cases hz : n11 = 0
        case neg =>
          have p0 : 0 < n11 := Nat.pos_of_ne_zero hz
          have p1 : (0 : Int) < (n11 : Int) := by omega
          obtain ⟨old, hold, hosz, _⟩ := HD11.out.res
          have HOLD := hidd hold
          have HOSZ : Hid (old.size = wtZ.toArray.size) := hosz
          have HLOW := hidd HD11.out.low
          clear hold hosz
          have SZZ : Hid ((Try.prog.info? 34).map (·.size) = some wtZ.toArray.size) := sizeW
          have OZZ : Hid (wtZ.toArray.all (·.oneCell') = true) := by show _ = _; kernel_rfl
          obtain ⟨ZZ, hZZ⟩ : ∃ Z, Z = wtZ.toArray := ⟨_, rfl⟩
          go_wp2_with (refine wpList_store_row rfl 34 _ _ rfl w.heap.size wtZ.toArray rfl rfl 34 old HOLD.out SZZ.out HOSZ.out OZZ.out ?_)
          refine bodyPost_ret (v := .tuple #[.agg wtZ.toArray, .int .i64 42]) ?_ ?_ ?_
          · exact results_cell_two Try.results13 _ _ w.heap.size 34 _ (0, 0) _ rfl _ rfl (setRow_heap _ _ _ _ _ _ HOLD.out) Try.underlying34 rfl SZZ.out
          · rfl
          · exact ⟨below_setRow HLOW.out (Nat.le_refl _) _, .inr ⟨rfl, fun y hy hp hi ey => end_rest HN11.out hz HS8.out (HY.out y hy hp hi ey).2.1⟩⟩

        case pos =>
          subst hz
          obtain ⟨T, hT⟩ : ∃ T, T = wtA x := ⟨_, rfl⟩
          have RGz : ∀ z : World, z.rowIs xb 34 18 (wtc x) → z.rangeAt xb 0 T.toList := fun z hz => by rw [hT]; exact row_range (L := wtL x) hz rfl
          have HRZ := hidd RGz
          have RG : Hid (w11.rangeAt xb 0 T.toList) := RGz w11 HX11.out
          have SL : Hid ((Try.prog.info? 34).map (·.size) = some T.toList.length) := by rw [hT]; exact sizeW
          have S18 : Hid ((Try.prog.info? 34).map (·.size) = some T.size) := by rw [hT]; exact sizeW
          have H1 : Hid (T.all (·.oneCell') = true) := by rw [hT]; exact wtA_one _
          have HT18 : Hid (T.size = 18) := by rw [hT]; rfl
          have HMX : Hid x.may := by
            obtain ⟨k0, k1, k2, k3, k4, k5, k6, k7⟩ := HKN.out.cf
            have := HMAY.out
            rw [HU.out] at this
            show may x.V x.W x.H x.K x.L x.D x.N x.M
            rw [k0, k1, k2, k3, k4, k5, k6, k7]
            exact this
          have hrx := HO11.out.rd HKN.out.i
          by_cases hfit : WtP x
          case neg =>
            have HCHK : Hid (Calls Try.prog 22 #[.agg T] w11 fun e w' => e = .returned (.int .i64 41) ∧ Below w11.heap.size w11 w') := by rw [hT]; exact check_any hrx 41 (.inr (.inl ⟨HMX.out, hfit, rfl⟩))
            have HNF := hidd hfit
            clear hfit hT RGz hrx
            go_upto_region 9 with (first
              | refine wpList_load_midG rfl 34 _ rfl xb 0 rfl T.toList _ RG.out Try.underlying34 rfl SL.out ?_
              | (go_at_call 22; refine HCHK.out.mono ?_; rintro e w12 ⟨rfl, f12⟩; have HD12 := hidd (HD11.out.fresh f12); clear f12))
            obtain ⟨old, hold, hosz, _⟩ := HD12.out.res
            have HOLD := hidd hold
            have HOSZ : Hid (old.size = wtZ.toArray.size) := hosz
            have HLOW := hidd HD12.out.low
            clear hold hosz
            have SZZ : Hid ((Try.prog.info? 34).map (·.size) = some wtZ.toArray.size) := sizeW
            have OZZ : Hid (wtZ.toArray.all (·.oneCell') = true) := by show _ = _; kernel_rfl
            obtain ⟨ZZ, hZZ⟩ : ∃ Z, Z = wtZ.toArray := ⟨_, rfl⟩
            go_wp2_with (refine wpList_store_row rfl 34 _ _ rfl w.heap.size wtZ.toArray rfl rfl 34 old HOLD.out SZZ.out HOSZ.out OZZ.out ?_)
            refine bodyPost_ret (v := .tuple #[.agg wtZ.toArray, .int .i64 42]) ?_ ?_ ?_
            · exact results_cell_two Try.results13 _ _ w.heap.size 34 _ (0, 0) _ rfl _ rfl (setRow_heap _ _ _ _ _ _ HOLD.out) Try.underlying34 rfl SZZ.out
            · rfl
            · exact ⟨below_setRow HLOW.out (Nat.le_refl _) _, .inr ⟨rfl, fun y hy hp hi ey => HNF.out (WtP.move HKN.out.l (HY.out y hy hp hi ey).2.2.2 (HY.out y hy hp hi ey).2.2.1 hp)⟩⟩

          case pos =>
            have HCHK : Hid (Calls Try.prog 22 #[.agg T] w11 fun e w' => e = .returned (.int .i64 0) ∧ Below w11.heap.size w11 w') := by rw [hT]; exact check_any hrx 0 (.inr (.inr ⟨HMX.out, hfit, rfl⟩))
            have HFT := hidd hfit
            have HTT := hidd hT
            clear hfit hT RGz hrx
            go_upto_region 10 with (first
              | refine wpList_load_midG rfl 34 _ rfl xb 0 rfl T.toList _ RG.out Try.underlying34 rfl SL.out ?_
              | (go_at_call 22; refine HCHK.out.mono ?_; rintro e w12 ⟨rfl, f12⟩; have HD12 := hidd (HD11.out.fresh f12); have RG12 := hidd (HRZ.out w12 (HX11.out.of_block (f12.block _ HX11.out.lt))); have HO12 := hidd (HO11.out.fresh f12); clear f12))
            obtain ⟨old, hold, hosz, _⟩ := HD12.out.res
            have HOLD := hidd hold
            have HOSZ : Hid (old.size = T.size) := by rw [HT18.out]; exact hosz
            have HLOW := hidd HD12.out.low
            clear hold hosz
            go_wp2_with (refine wpList_load_mid rfl 34 _ rfl xb 0 rfl T.toList _ RG12.out Try.underlying34 rfl SL.out (wpList_store_row rfl 34 _ _ rfl w.heap.size T rfl rfl 34 old HOLD.out S18.out HOSZ.out H1.out ?_))
            refine bodyPost_ret (v := .tuple #[.agg T, .int .i64 0]) ?_ ?_ ?_
            · exact results_cell_two Try.results13 _ _ w.heap.size 34 _ (0, 0) _ rfl _ rfl (setRow_heap _ _ _ _ _ _ HOLD.out) Try.underlying34 rfl S18.out
            · rfl
            · exact ⟨below_setRow HLOW.out (Nat.le_refl _) _, .inl ⟨x, by rw [HTT.out], (HO12.out.chg (Chg.of_setRow w12 w.heap.size T) (fun b hb e => by omega)).weaken (by omega), HKN.out.i, HMX.out, HFT.out, end_ok HS7.out HS8.out HN11.out HLL.out⟩⟩
end Go.Proofs.Ytilghknalbhacaa
