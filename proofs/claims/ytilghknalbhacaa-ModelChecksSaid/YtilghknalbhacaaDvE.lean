import Derived.Test.YtilghknalbhacaaJAM
import Derived.Test.YtilghknalbhacaaJAN
import Derived.Test.YtilghknalbhacaaJAH
namespace Go.Proofs.Ytilghknalbhacaa
open Go.RowKit
/-! The view's layer. -/
/-- what is known of a layer's first k matrices and its two lists -/
structure KnL (l : LyD) (nW : Nat) (f1 f2 : Nat → Int) (R C : Nat → Int) (P : Nat → Nat) (F : Nat → Nat → Int) (k : Nat) : Prop where
  n1 : l.n1.n = nW ∧ l.n1.f = f1
  n2 : l.n2.n = nW ∧ l.n2.f = f2
  mt : ∀ r, r < k → (mtI l r).R = R r ∧ (mtI l r).C = C r ∧ (mtI l r).n = P r ∧ (mtI l r).f = F r
theorem KnL.next {l : LyD} {nW : Nat} {f1 f2 : Nat → Int} {R C : Nat → Int} {P : Nat → Nat} {F : Nat → Nat → Int} {k : Nat} (h : KnL l nW f1 f2 R C P F k) (hk : k < 7) {m : MtD} (h1 : m.R = R k) (h2 : m.C = C k) (h3 : m.n = P k) (h4 : m.f = F k) : KnL (setMI l k m) nW f1 f2 R C P F (k + 1) := by
  obtain ⟨e1, e2, e3⟩ := setMI_rest l k m hk
  refine ⟨by rw [e1]; exact h.n1, by rw [e2]; exact h.n2, fun r hr => ?_⟩
  by_cases e : r = k
  · subst e
    rw [mtI_same l r m hk]
    exact ⟨h1, h2, h3, h4⟩
  · rw [mtI_other l k r m hk (by omega) e]
    exact h.mt r (by omega)
theorem vl_narrow {w wx : World} {v bb gl : Nat} {cf : List Int} {l : LyD} {B : List Int} {q : Nat} (h : Lwd w wx v gl cf l) (hv : v < w.heap.size) (hbb : bb < w.heap.size) (hw : Vw wx v bb B q) {n : Nat} (hn : n ≤ 1048576) (hq : q ≤ 1099511627776) :
    Calls Try.prog 60 #[.pointer (some ⟨v, 0, none⟩), .int .i64 n] wx fun e w' => ∃ u c, e = .returned (.slice u n c) ∧ Own w' (gl + 1) 84 1 (.slice u n c) n (fun i => .int .i8 (vnF B q i)) ∧ Lwd w w' v gl cf l ∧ Vw w' v bb B (q + n) := by
  have hs := h.loc.lt
  have hg := h.hg
  refine (vnarrow_any hw (by omega) hn hq).mono ?_
  rintro e w' ⟨u, c, rfl, ho, hv', hc⟩
  exact ⟨u, c, rfl, ho.weaken (by omega), h.call hv hc, hv'⟩
theorem vl_mat {w wx : World} {v bb gl : Nat} {cf : List Int} {l : LyD} {B : List Int} {q : Nat} (h : Lwd w wx v gl cf l) (hv : v < w.heap.size) (hbb : bb < w.heap.size) (hw : Vw wx v bb B q) {r c : Int} {P : Nat} (hP : r * c = (P : Int)) (hn : P ≤ 1048576) (hq : q ≤ 1099511627776) :
    Calls Try.prog 57 #[.pointer (some ⟨v, 0, none⟩), .int .i64 r, .int .i64 c] wx fun e w' => ∃ u k, e = .returned (.agg #[.int .i64 r, .int .i64 c, .slice u P k]) ∧ Own w' (gl + 1) 84 1 (.slice u P k) P (fun i => .int .i8 (vnF B q i)) ∧ Lwd w w' v gl cf l ∧ Vw w' v bb B (q + P) := by
  have hs := h.loc.lt
  have hg := h.hg
  refine (vmat_any hw (by omega) hP hn hq).mono ?_
  rintro e w' ⟨u, c, rfl, ho, hv', hc⟩
  exact ⟨u, c, rfl, ho.weaken (by omega), h.call hv hc, hv'⟩
theorem Vw.put {w wx : World} {v bb gl : Nat} {cf : List Int} {l : LyD} {B : List Int} {q : Nat} (hw : Vw wx v bb B q) (h : Lwd w wx v gl cf l) (hv : v < w.heap.size) (hbb : bb < w.heap.size) {wy : World} (c : Chg wx wy (fun b => b = gl)) : Vw wy v bb B q := hw.chg c (by have := h.hg; omega) (by have := h.hg; omega)
def rowM (nW : Nat) (kv D : Int) : Nat → Int | 0 => nW | 1 => kv | 2 => kv | 3 => nW | 4 => D | 5 => D | _ => nW
def colM (nW : Nat) (D : Int) : Nat → Int | 6 => D | _ => nW
def szM (a b c : Nat) : Nat → Nat | 0 => a | 1 => b | 2 => b | 3 => a | 4 => c | 5 => c | _ => c
def posM (q a b c : Nat) : Nat → Nat | 0 => q | 1 => q + a | 2 => q + a + b | 3 => q + a + b + b | 4 => q + a + b + b + a | 5 => q + a + b + b + a + c | 6 => q + a + b + b + a + c + c | _ => q + a + b + b + a + c + c + c
structure VLy (w w' : World) (v bb : Nat) (B : List Int) (p nW a b c : Nat) (kv D : Int) (l : LyD) : Prop where
  kn : KnL l nW (vnF B (p + 5)) (vnF B (p + 5 + nW)) (rowM nW kv D) (colM nW D) (szM a b c) (fun r => vnF B (posM (p + 5 + nW + nW) a b c r)) 7
  sh : ∀ i, i < 7 → l.sh i = vnF B (posM (p + 5 + nW + nW) a b c 7) i
  own : Lo w' (w.heap.size + 2) l
  vw : Vw w' v bb B (posM (p + 5 + nW + nW) a b c 7 + 7)
  chg : Chg w w' (fun b => b = v)
theorem cfg_row (w : World) (V H K L D N M : Int) (nW : Nat) (o : Obj) : ((w.alloc (.cells #[.int .i64 V, .int .i64 (nW : Int), .int .i64 H, .int .i64 K, .int .i64 L, .int .i64 D, .int .i64 N, .int .i64 M] 23)).alloc o).rowIs w.heap.size 23 8 (fun i => .int .i64 ([V, (nW : Int), H, K, L, D, N, M].getD i 0)) := by
  refine World.rowIs.alloc ⟨_, Go.Deep.blk_alloc_new _ _, rfl, fun j hj => ?_⟩ _
  match j, hj with
  | 0, _ | 1, _ | 2, _ | 3, _ | 4, _ | 5, _ | 6, _ | 7, _ => rfl
theorem res_row (w : World) (o : Obj) : ((w.alloc o).alloc (.cells #[.slice none 0 0, .slice none 0 0, .int .i64 0, .int .i64 0, .slice none 0 0, .int .i64 0, .int .i64 0, .slice none 0 0, .int .i64 0, .int .i64 0, .slice none 0 0, .int .i64 0, .int .i64 0, .slice none 0 0, .int .i64 0, .int .i64 0, .slice none 0 0, .int .i64 0, .int .i64 0, .slice none 0 0, .int .i64 0, .int .i64 0, .slice none 0 0, .int .i64 0, .int .i64 0, .int .i64 0, .int .i64 0, .int .i64 0, .int .i64 0, .int .i64 0] 67)).rowIs (w.heap.size + 1) 67 30 (fun i => lyZ.getD i undef) := by
  have := World.rowIs_list (w.alloc o) lyZ 67
  rw [World.size_alloc] at this
  exact this
theorem loc_row (w : World) : (w.alloc (.cells #[.slice none 0 0, .slice none 0 0, .int .i64 0, .int .i64 0, .slice none 0 0, .int .i64 0, .int .i64 0, .slice none 0 0, .int .i64 0, .int .i64 0, .slice none 0 0, .int .i64 0, .int .i64 0, .slice none 0 0, .int .i64 0, .int .i64 0, .slice none 0 0, .int .i64 0, .int .i64 0, .slice none 0 0, .int .i64 0, .int .i64 0, .slice none 0 0, .int .i64 0, .int .i64 0, .int .i64 0, .int .i64 0, .int .i64 0, .int .i64 0, .int .i64 0] 67)).rowIs w.heap.size 67 30 (lyr lyO0) := World.rowIs_list w (lyL lyO0) 67
theorem lw_start {w w2 w3 : World} {v : Nat} {cf : List Int} (hv : v < w.heap.size) (f1 : Below w.heap.size w w2) (hb : w2.rowIs w.heap.size 23 8 (fun i => .int .i64 (cf.getD i 0))) (hr : w2.rowIs (w.heap.size + 1) 67 30 (fun i => lyZ.getD i undef)) (c : Chg w2 w3 (fun b => b = v)) (hs : w.heap.size + 2 ≤ w3.heap.size) : Lwd w (w3.alloc (.cells #[.slice none 0 0, .slice none 0 0, .int .i64 0, .int .i64 0, .slice none 0 0, .int .i64 0, .int .i64 0, .slice none 0 0, .int .i64 0, .int .i64 0, .slice none 0 0, .int .i64 0, .int .i64 0, .slice none 0 0, .int .i64 0, .int .i64 0, .slice none 0 0, .int .i64 0, .int .i64 0, .slice none 0 0, .int .i64 0, .int .i64 0, .slice none 0 0, .int .i64 0, .int .i64 0, .int .i64 0, .int .i64 0, .int .i64 0, .int .i64 0, .int .i64 0] 67)) v w3.heap.size cf lyO0 :=
  ⟨(c.row hb (by omega)).alloc _, (c.row hr (by omega)).alloc _, loc_row w3, Lo.zero _ _, (Chg.pre f1 c).post (fresh_alloc _ _), hs⟩
theorem Chg.of_setRow (w : World) (g : Nat) (cs : Array Value) : Chg w (w.setRow g cs) (fun b => b = g) := ⟨below_setRow (Below.refl 0 w) (Nat.zero_le _) cs, fun b _ hS => setRow_other w g b cs hS⟩
theorem vly_kn {B : List Int} {p nW a b c : Nat} {kv D : Int} {u0 u1 u2 u3 u4 u5 u6 u7 u8 : Option Addr} {c0 c1 c2 c3 c4 c5 c6 c7 c8 q0 q1 q2 q3 q4 q5 q6 q7 q8 : Nat} {m0 m1 m2 m3 m4 m5 m6 m7 m8 l : LyD}
    (e0 : q0 = p + 5) (e1 : q1 = q0 + nW) (e2 : q2 = q1 + nW) (e3 : q3 = q2 + a) (e4 : q4 = q3 + b) (e5 : q5 = q4 + b) (e6 : q6 = q5 + a) (e7 : q7 = q6 + c) (e8 : q8 = q7 + c)
    (M0 : m0 = { lyO0 with n1 := ⟨u0, nW, c0, vnF B q0⟩ }) (M1 : m1 = { m0 with n2 := ⟨u1, nW, c1, vnF B q1⟩ })
    (M2 : m2 = setMI m1 0 ⟨(nW : Int), (nW : Int), u2, a, c2, vnF B q2⟩) (M3 : m3 = setMI m2 1 ⟨kv, (nW : Int), u3, b, c3, vnF B q3⟩) (M4 : m4 = setMI m3 2 ⟨kv, (nW : Int), u4, b, c4, vnF B q4⟩)
    (M5 : m5 = setMI m4 3 ⟨(nW : Int), (nW : Int), u5, a, c5, vnF B q5⟩) (M6 : m6 = setMI m5 4 ⟨D, (nW : Int), u6, c, c6, vnF B q6⟩) (M7 : m7 = setMI m6 5 ⟨D, (nW : Int), u7, c, c7, vnF B q7⟩) (M8 : m8 = setMI m7 6 ⟨(nW : Int), D, u8, c, c8, vnF B q8⟩)
    (k1 : l.n1 = m8.n1) (k2 : l.n2 = m8.n2) (k3 : ∀ r, r < 7 → mtI l r = mtI m8 r) :
    KnL l nW (vnF B (p + 5)) (vnF B (p + 5 + nW)) (rowM nW kv D) (colM nW D) (szM a b c) (fun r => vnF B (posM (p + 5 + nW + nW) a b c r)) 7 := by
  have K1 : KnL m1 nW (vnF B (p + 5)) (vnF B (p + 5 + nW)) (rowM nW kv D) (colM nW D) (szM a b c) (fun r => vnF B (posM (p + 5 + nW + nW) a b c r)) 0 := by
    refine ⟨?_, ?_, fun r hr => absurd hr (by omega)⟩
    · rw [M1, M0, e0]; exact ⟨rfl, rfl⟩
    · rw [M1, e1, e0]; exact ⟨rfl, rfl⟩
  have K2 := K1.next (m := ⟨(nW : Int), (nW : Int), u2, a, c2, vnF B q2⟩) (by decide) rfl rfl rfl (by rw [e2, e1, e0]; rfl)
  rw [← M2] at K2
  have K3 := K2.next (m := ⟨kv, (nW : Int), u3, b, c3, vnF B q3⟩) (by decide) rfl rfl rfl (by rw [e3, e2, e1, e0]; rfl)
  rw [← M3] at K3
  have K4 := K3.next (m := ⟨kv, (nW : Int), u4, b, c4, vnF B q4⟩) (by decide) rfl rfl rfl (by rw [e4, e3, e2, e1, e0]; rfl)
  rw [← M4] at K4
  have K5 := K4.next (m := ⟨(nW : Int), (nW : Int), u5, a, c5, vnF B q5⟩) (by decide) rfl rfl rfl (by rw [e5, e4, e3, e2, e1, e0]; rfl)
  rw [← M5] at K5
  have K6 := K5.next (m := ⟨D, (nW : Int), u6, c, c6, vnF B q6⟩) (by decide) rfl rfl rfl (by rw [e6, e5, e4, e3, e2, e1, e0]; rfl)
  rw [← M6] at K6
  have K7 := K6.next (m := ⟨D, (nW : Int), u7, c, c7, vnF B q7⟩) (by decide) rfl rfl rfl (by rw [e7, e6, e5, e4, e3, e2, e1, e0]; rfl)
  rw [← M7] at K7
  have K8 := K7.next (m := ⟨(nW : Int), D, u8, c, c8, vnF B q8⟩) (by decide) rfl rfl rfl (by rw [e8, e7, e6, e5, e4, e3, e2, e1, e0]; rfl)
  rw [← M8] at K8
  exact ⟨by rw [k1]; exact K8.n1, by rw [k2]; exact K8.n2, fun r hr => by rw [k3 r hr]; exact K8.mt r hr⟩
theorem Lo.weaken {wx : World} {b0 b1 : Nat} {l : LyD} (h : Lo wx b0 l) (k : b1 ≤ b0) : Lo wx b1 l := ⟨h.n1.weaken k, h.n2.weaken k, fun q hq => (h.mt q hq).weaken k⟩
theorem vly_of {w wr : World} {v bb gl : Nat} {cf : List Int} {B : List Int} {p nW a b c q9 q10 : Nat} {kv D : Int} {l : LyD} (T9 : Array Value) (hvl : v < w.heap.size) (hbb : bb < w.heap.size)
    (hk : KnL l nW (vnF B (p + 5)) (vnF B (p + 5 + nW)) (rowM nW kv D) (colM nW D) (szM a b c) (fun r => vnF B (posM (p + 5 + nW + nW) a b c r)) 7)
    (e9 : q9 = posM (p + 5 + nW + nW) a b c 7) (e10 : q10 = q9 + 7) (hs : ∀ i, i < 7 → l.sh i = vnF B q9 i) (hG : Lwd w wr v gl cf l) (hV : Vw wr v bb B q10) : VLy w (wr.setRow (w.heap.size + 1) T9) v bb B p nW a b c kv D l := by
  have cg := Chg.of_setRow wr (w.heap.size + 1) T9
  have hg := hG.hg
  refine ⟨hk, fun i hi => by rw [← e9]; exact hs i hi, (hG.own.chg cg (fun ho b e hb => by have := (ho.lt b e).1; omega)).weaken (by omega), ?_, hG.chg.trans cg (fun x hx e => by omega)⟩
  rw [← e9, ← e10]
  exact hV.chg cg (by omega) (by omega)
set_option maxRecDepth 20000 in
set_option maxHeartbeats 4000000 in
theorem vlayer_any {w : World} {v bb : Nat} {B : List Int} {p : Nat} (h : Vw w v bb B p) (hbb : bb < w.heap.size) (V H K L D N M kv : Int) (nW a b c : Nat) (hH : 1 ≤ H) (hH4 : H ≤ 4) (hW : 2 ≤ (nW : Int)) (hW2 : (nW : Int) ≤ 32) (hkv : K * ((nW : Int) / H) = kv) (kv0 : 0 ≤ kv) (kv1 : kv ≤ 128) (pa : (nW : Int) * (nW : Int) = (a : Int)) (pb : kv * (nW : Int) = (b : Int)) (pc : D * (nW : Int) = (c : Int)) (pd : (nW : Int) * D = (c : Int)) (ba : a ≤ 1048576) (bb1 : b ≤ 1048576) (bc : c ≤ 1048576) (hp : p ≤ 1099500000000) :
    Calls Try.prog 59 #[.pointer (some ⟨v, 0, none⟩), .agg #[.int .i64 V, .int .i64 (nW : Int), .int .i64 H, .int .i64 K, .int .i64 L, .int .i64 D, .int .i64 N, .int .i64 M]] w fun e w' => ∃ l, e = .returned (.agg (lyA l)) ∧ VLy w w' v bb B p nW a b c kv D l := by
  have hvl := h.lt
  have HBY := hidd h.byt
  have hf0 := fresh_trans (fresh_alloc w (.cells #[.int .i64 V, .int .i64 (nW : Int), .int .i64 H, .int .i64 K, .int .i64 L, .int .i64 D, .int .i64 N, .int .i64 M] 23)) (fresh_alloc _ (.cells #[.slice none 0 0, .slice none 0 0, .int .i64 0, .int .i64 0, .slice none 0 0, .int .i64 0, .int .i64 0, .slice none 0 0, .int .i64 0, .int .i64 0, .slice none 0 0, .int .i64 0, .int .i64 0, .slice none 0 0, .int .i64 0, .int .i64 0, .slice none 0 0, .int .i64 0, .int .i64 0, .slice none 0 0, .int .i64 0, .int .i64 0, .slice none 0 0, .int .i64 0, .int .i64 0, .int .i64 0, .int .i64 0, .int .i64 0, .int .i64 0, .int .i64 0] 67))
  have HBX := hidd (cfg_row w V H K L D N M nW (.cells #[.slice none 0 0, .slice none 0 0, .int .i64 0, .int .i64 0, .slice none 0 0, .int .i64 0, .int .i64 0, .slice none 0 0, .int .i64 0, .int .i64 0, .slice none 0 0, .int .i64 0, .int .i64 0, .slice none 0 0, .int .i64 0, .int .i64 0, .slice none 0 0, .int .i64 0, .int .i64 0, .slice none 0 0, .int .i64 0, .int .i64 0, .slice none 0 0, .int .i64 0, .int .i64 0, .int .i64 0, .int .i64 0, .int .i64 0, .int .i64 0, .int .i64 0] 67))
  have HRS := hidd (res_row w (.cells #[.int .i64 V, .int .i64 (nW : Int), .int .i64 H, .int .i64 K, .int .i64 L, .int .i64 D, .int .i64 N, .int .i64 M] 23))
  have HV0 := hidd (h.fresh hf0)
  have hs0 : ((w.alloc (.cells #[.int .i64 V, .int .i64 (nW : Int), .int .i64 H, .int .i64 K, .int .i64 L, .int .i64 D, .int .i64 N, .int .i64 M] 23)).alloc (.cells #[.slice none 0 0, .slice none 0 0, .int .i64 0, .int .i64 0, .slice none 0 0, .int .i64 0, .int .i64 0, .slice none 0 0, .int .i64 0, .int .i64 0, .slice none 0 0, .int .i64 0, .int .i64 0, .slice none 0 0, .int .i64 0, .int .i64 0, .slice none 0 0, .int .i64 0, .int .i64 0, .slice none 0 0, .int .i64 0, .int .i64 0, .slice none 0 0, .int .i64 0, .int .i64 0, .int .i64 0, .int .i64 0, .int .i64 0, .int .i64 0, .int .i64 0] 67)).heap.size = w.heap.size + 2 := by simp
  have HF0 := hidd hf0
  obtain ⟨q0, e0⟩ : ∃ q, Hid (q = p + 5) := ⟨_, rfl⟩
  have wq : IntKind.i64.wrap ((p : Int) + 5) = (q0 : Int) := by rw [e0.out, show (p : Int) + 5 = ((p + 5 : Nat) : Int) by omega]; exact wrap_small _ (by omega) (by omega)
  have wq2 : (p : Int) + 5 = (q0 : Int) := by rw [e0.out]; omega
  have wkv : IntKind.i64.wrap (K * ((nW : Int) / H)) = kv := by rw [hkv]; exact wrap_small _ (by omega) (by omega)
  clear h hf0
  go_enter Try.func59, Try.ntmps59
  go_upto_region 1 with fail
  generalize ((w.alloc (.cells #[.int .i64 V, .int .i64 (nW : Int), .int .i64 H, .int .i64 K, .int .i64 L, .int .i64 D, .int .i64 N, .int .i64 M] 23)).alloc (.cells #[.slice none 0 0, .slice none 0 0, .int .i64 0, .int .i64 0, .slice none 0 0, .int .i64 0, .int .i64 0, .slice none 0 0, .int .i64 0, .int .i64 0, .slice none 0 0, .int .i64 0, .int .i64 0, .slice none 0 0, .int .i64 0, .int .i64 0, .slice none 0 0, .int .i64 0, .int .i64 0, .slice none 0 0, .int .i64 0, .int .i64 0, .slice none 0 0, .int .i64 0, .int .i64 0, .int .i64 0, .int .i64 0, .int .i64 0, .int .i64 0, .int .i64 0] 67)) = w1 at *
  have d1 : w1.cell? ⟨w.heap.size, 1, none⟩ = some (.int .i64 (nW : Int)) := HBX.out.cell (i := 1) (by decide)
  go_upto_region 2 with fail
  have l0 : ∀ x : Later w1, x.val.cell? ⟨w.heap.size, 0, none⟩ = some (.int .i64 V) := later_cell (HBX.out.cell (i := 0) (by decide))
  have l1 : ∀ x : Later w1, x.val.cell? ⟨w.heap.size, 1, none⟩ = some (.int .i64 (nW : Int)) := later_cell (HBX.out.cell (i := 1) (by decide))
  have l2 : ∀ x : Later w1, x.val.cell? ⟨w.heap.size, 2, none⟩ = some (.int .i64 H) := later_cell (HBX.out.cell (i := 2) (by decide))
  have l3 : ∀ x : Later w1, x.val.cell? ⟨w.heap.size, 3, none⟩ = some (.int .i64 K) := later_cell (HBX.out.cell (i := 3) (by decide))
  have l4 : ∀ x : Later w1, x.val.cell? ⟨w.heap.size, 4, none⟩ = some (.int .i64 L) := later_cell (HBX.out.cell (i := 4) (by decide))
  have l5 : ∀ x : Later w1, x.val.cell? ⟨w.heap.size, 5, none⟩ = some (.int .i64 D) := later_cell (HBX.out.cell (i := 5) (by decide))
  have l6 : ∀ x : Later w1, x.val.cell? ⟨w.heap.size, 6, none⟩ = some (.int .i64 N) := later_cell (HBX.out.cell (i := 6) (by decide))
  have l7 : ∀ x : Later w1, x.val.cell? ⟨w.heap.size, 7, none⟩ = some (.int .i64 M) := later_cell (HBX.out.cell (i := 7) (by decide))
  have ne := later_some w1
  clear d1
  refine wp_region_later (by kernel_rfl) (by kernel_rfl) ?_
  repeat (go_big_quiet_step (fail))
  go_big_quiet_step (exact later_of (head_ref _ _ _ _ _ _ _ _ _ hH hH4 hW hW2))
  repeat (go_big_quiet_step (fail))
  refine wpQuiet_nil ?_
  rintro _ ⟨z, rfl⟩
  have hz := z.fresh
  have HV1 := hidd (HV0.out.fresh hz)
  have HBX1 := hidd (HBX.out.of_block (hz.block _ HBX.out.lt))
  have HRS1 := hidd (HRS.out.of_block (hz.block _ HRS.out.lt))
  have HF1 := hidd (fresh_trans HF0.out hz)
  have hs1 : w.heap.size + 2 ≤ z.val.heap.size := by have := hz.size; omega
  clear l0 l1 l2 l3 l4 l5 l6 l7 ne hz HV0 HBX HRS HF0 wkv
  generalize z.val = w2 at *
  obtain ⟨bo, cb, hr, _, _⟩ := HV1.out.ex
  have c1 : w2.cell? ⟨v, 1, none⟩ = some (.int .i64 (p : Int)) := hr.cell (i := 1) (by decide)
  have fz := hr.frozen
  clear hr
  go_upto_region 4 with fail
  have HV2 := hidd (HV1.out.move q0)
  have HC2 := hidd (Chg.of_set w2 v 1 (.int .i64 (q0 : Int)))
  have hsz2 : (w2.setCell ⟨v, 1, none⟩ (.int .i64 (q0 : Int))).heap.size = w2.heap.size := World.size_setCell _ _ _
  clear c1 fz wq wq2
  generalize w2.setCell ⟨v, 1, none⟩ (.int .i64 (q0 : Int)) = w3 at *
  have HSZ := hidd hsz2
  clear hsz2
  have fl := fresh_alloc w3 (.cells #[.slice none 0 0, .slice none 0 0, .int .i64 0, .int .i64 0, .slice none 0 0, .int .i64 0, .int .i64 0, .slice none 0 0, .int .i64 0, .int .i64 0, .slice none 0 0, .int .i64 0, .int .i64 0, .slice none 0 0, .int .i64 0, .int .i64 0, .slice none 0 0, .int .i64 0, .int .i64 0, .slice none 0 0, .int .i64 0, .int .i64 0, .slice none 0 0, .int .i64 0, .int .i64 0, .int .i64 0, .int .i64 0, .int .i64 0, .int .i64 0, .int .i64 0] 67)
  have HL0 := hidd (lw_start hvl HF1.out HBX1.out HRS1.out HC2.out (by have := HSZ.out; omega))
  have HV3 := hidd (HV2.out.fresh fl)
  have HZH := hidd (heap_new w3 (.cells #[.slice none 0 0, .slice none 0 0, .int .i64 0, .int .i64 0, .slice none 0 0, .int .i64 0, .int .i64 0, .slice none 0 0, .int .i64 0, .int .i64 0, .slice none 0 0, .int .i64 0, .int .i64 0, .slice none 0 0, .int .i64 0, .int .i64 0, .slice none 0 0, .int .i64 0, .int .i64 0, .slice none 0 0, .int .i64 0, .int .i64 0, .slice none 0 0, .int .i64 0, .int .i64 0, .int .i64 0, .int .i64 0, .int .i64 0, .int .i64 0, .int .i64 0] 67))
  have HON : Hid ((#[.slice none 0 0, .slice none 0 0, .int .i64 0, .int .i64 0, .slice none 0 0, .int .i64 0, .int .i64 0, .slice none 0 0, .int .i64 0, .int .i64 0, .slice none 0 0, .int .i64 0, .int .i64 0, .slice none 0 0, .int .i64 0, .int .i64 0, .slice none 0 0, .int .i64 0, .int .i64 0, .slice none 0 0, .int .i64 0, .int .i64 0, .slice none 0 0, .int .i64 0, .int .i64 0, .int .i64 0, .int .i64 0, .int .i64 0, .int .i64 0, .int .i64 0] : Array Value).all (·.oneCell') = true) := lyA_one lyO0
  go_upto_region 5 with (first | refine wpList_store_row rfl 67 _ _ rfl w3.heap.size #[.slice none 0 0, .slice none 0 0, .int .i64 0, .int .i64 0, .slice none 0 0, .int .i64 0, .int .i64 0, .slice none 0 0, .int .i64 0, .int .i64 0, .slice none 0 0, .int .i64 0, .int .i64 0, .slice none 0 0, .int .i64 0, .int .i64 0, .slice none 0 0, .int .i64 0, .int .i64 0, .slice none 0 0, .int .i64 0, .int .i64 0, .slice none 0 0, .int .i64 0, .int .i64 0, .int .i64 0, .int .i64 0, .int .i64 0, .int .i64 0, .int .i64 0] rfl rfl 67 _ HZH.out sizeL rfl HON.out ?_ | fail)
  rw [World.setRow_alloc_new]
  simp only [Act.put]
  clear HZH HON
  clear HV1 HV2 HBX1 HRS1 HF1 HC2 HSZ fl
  generalize (w3.alloc (.cells #[.slice none 0 0, .slice none 0 0, .int .i64 0, .int .i64 0, .slice none 0 0, .int .i64 0, .int .i64 0, .slice none 0 0, .int .i64 0, .int .i64 0, .slice none 0 0, .int .i64 0, .int .i64 0, .slice none 0 0, .int .i64 0, .int .i64 0, .slice none 0 0, .int .i64 0, .int .i64 0, .slice none 0 0, .int .i64 0, .int .i64 0, .slice none 0 0, .int .i64 0, .int .i64 0, .int .i64 0, .int .i64 0, .int .i64 0, .int .i64 0, .int .i64 0] 67)) = w4 at *
  generalize w3.heap.size = gl at *
  obtain ⟨q1, e1⟩ : ∃ q, Hid (q = q0 + nW) := ⟨_, rfl⟩
  have HN0 := hidd (vl_narrow HL0.out hvl hbb HV3.out (n := nW) (by omega) (by have := e0.out; omega))
  rw [← e1.out] at HN0
  go_upto_region 6 with (go_at_call 60; refine HN0.out.mono ?_; rintro e x0 ⟨u0, c0, rfl, ho, hG, hV⟩; obtain ⟨v0, s0⟩ : ∃ x, x0.cell? ⟨gl, 0, none⟩ = some x := ⟨_, hG.loc.cell (i := 0) (by decide)⟩; have fz := hG.loc.frozen)
  have G0 := hidd (hG.n1 ⟨u0, nW, c0, vnF B q0⟩ ho)
  have V0 := hidd (hV.put hG hvl hbb (Chg.of_set x0 gl 0 (.slice u0 nW c0)))
  clear HN0 s0 fz ho hG hV HL0 HV3
  generalize x0.setCell ⟨gl, 0, none⟩ (.slice u0 nW c0) = y0 at *
  obtain ⟨m0, HM0⟩ : ∃ l : LyD, Hid (l = ({ lyO0 with n1 := ⟨u0, nW, c0, vnF B q0⟩ } : LyD)) := ⟨_, rfl⟩
  rw [← HM0.out] at G0
  obtain ⟨q2, e2⟩ : ∃ q, Hid (q = q1 + nW) := ⟨_, rfl⟩
  have HN1 := hidd (vl_narrow G0.out hvl hbb V0.out (n := nW) (by omega) (by have := e0.out; have := e1.out; omega))
  rw [← e2.out] at HN1
  go_upto_region 7 with (go_at_call 60; refine HN1.out.mono ?_; rintro e x1 ⟨u1, c1, rfl, ho, hG, hV⟩; obtain ⟨v0, s0⟩ : ∃ x, x1.cell? ⟨gl, 1, none⟩ = some x := ⟨_, hG.loc.cell (i := 1) (by decide)⟩; have fz := hG.loc.frozen)
  have G1 := hidd (hG.n2 ⟨u1, nW, c1, vnF B q1⟩ ho)
  have V1 := hidd (hV.put hG hvl hbb (Chg.of_set x1 gl 1 (.slice u1 nW c1)))
  clear HN1 s0 fz ho hG hV G0 V0
  generalize x1.setCell ⟨gl, 1, none⟩ (.slice u1 nW c1) = y1 at *
  obtain ⟨m1, HM1⟩ : ∃ l : LyD, Hid (l = ({ m0 with n2 := ⟨u1, nW, c1, vnF B q1⟩ } : LyD)) := ⟨_, rfl⟩
  rw [← HM1.out] at G1
  obtain ⟨q3, e3⟩ : ∃ q, Hid (q = q2 + a) := ⟨_, rfl⟩
  have HN2 := hidd (vl_mat G1.out hvl hbb V1.out pa ba (by have := e0.out; have := e1.out; have := e2.out; omega))
  rw [← e3.out] at HN2
  go_upto_region 8 with (go_at_call 57; refine HN2.out.mono ?_; rintro e x2 ⟨u2, c2, rfl, ho, hG, hV⟩; obtain ⟨v0, s0⟩ : ∃ x, x2.cell? ⟨gl, 2, none⟩ = some x := ⟨_, hG.loc.cell (i := 2) (by decide)⟩; obtain ⟨v1, s1⟩ : ∃ x, x2.cell? ⟨gl, 3, none⟩ = some x := ⟨_, hG.loc.cell (i := 3) (by decide)⟩; obtain ⟨v2, s2⟩ : ∃ x, x2.cell? ⟨gl, 4, none⟩ = some x := ⟨_, hG.loc.cell (i := 4) (by decide)⟩; have fz := hG.loc.frozen)
  have G2 := hidd (hG.mt (r := 0) (by decide) ⟨(nW : Int), (nW : Int), u2, a, c2, vnF B q2⟩ ho)
  have V2 := hidd (hV.put hG hvl hbb (((Chg.of_set x2 gl 2 (.int .i64 (nW : Int))).trans (Chg.of_set _ gl 3 (.int .i64 (nW : Int))) (fun _ _ e => e)).trans (Chg.of_set _ gl 4 (.slice u2 a c2)) (fun _ _ e => e)))
  clear HN2 s0 s1 s2 fz ho hG hV G1 V1
  simp only [Nat.reduceMul, Nat.reduceAdd] at G2
  generalize ((x2.setCell ⟨gl, 2, none⟩ (.int .i64 (nW : Int))).setCell ⟨gl, 3, none⟩ (.int .i64 (nW : Int))).setCell ⟨gl, 4, none⟩ (.slice u2 a c2) = y2 at *
  obtain ⟨m2, HM2⟩ : ∃ l, Hid (l = setMI m1 0 ⟨(nW : Int), (nW : Int), u2, a, c2, vnF B q2⟩) := ⟨_, rfl⟩
  rw [← HM2.out] at G2
  obtain ⟨q4, e4⟩ : ∃ q, Hid (q = q3 + b) := ⟨_, rfl⟩
  have HN3 := hidd (vl_mat G2.out hvl hbb V2.out pb bb1 (by have := e0.out; have := e1.out; have := e2.out; have := e3.out; omega))
  rw [← e4.out] at HN3
  go_upto_region 9 with (go_at_call 57; refine HN3.out.mono ?_; rintro e x3 ⟨u3, c3, rfl, ho, hG, hV⟩; obtain ⟨v0, s0⟩ : ∃ x, x3.cell? ⟨gl, 5, none⟩ = some x := ⟨_, hG.loc.cell (i := 5) (by decide)⟩; obtain ⟨v1, s1⟩ : ∃ x, x3.cell? ⟨gl, 6, none⟩ = some x := ⟨_, hG.loc.cell (i := 6) (by decide)⟩; obtain ⟨v2, s2⟩ : ∃ x, x3.cell? ⟨gl, 7, none⟩ = some x := ⟨_, hG.loc.cell (i := 7) (by decide)⟩; have fz := hG.loc.frozen)
  have G3 := hidd (hG.mt (r := 1) (by decide) ⟨kv, (nW : Int), u3, b, c3, vnF B q3⟩ ho)
  have V3 := hidd (hV.put hG hvl hbb (((Chg.of_set x3 gl 5 (.int .i64 kv)).trans (Chg.of_set _ gl 6 (.int .i64 (nW : Int))) (fun _ _ e => e)).trans (Chg.of_set _ gl 7 (.slice u3 b c3)) (fun _ _ e => e)))
  clear HN3 s0 s1 s2 fz ho hG hV G2 V2
  simp only [Nat.reduceMul, Nat.reduceAdd] at G3
  generalize ((x3.setCell ⟨gl, 5, none⟩ (.int .i64 kv)).setCell ⟨gl, 6, none⟩ (.int .i64 (nW : Int))).setCell ⟨gl, 7, none⟩ (.slice u3 b c3) = y3 at *
  obtain ⟨m3, HM3⟩ : ∃ l, Hid (l = setMI m2 1 ⟨kv, (nW : Int), u3, b, c3, vnF B q3⟩) := ⟨_, rfl⟩
  rw [← HM3.out] at G3
  obtain ⟨q5, e5⟩ : ∃ q, Hid (q = q4 + b) := ⟨_, rfl⟩
  have HN4 := hidd (vl_mat G3.out hvl hbb V3.out pb bb1 (by have := e0.out; have := e1.out; have := e2.out; have := e3.out; have := e4.out; omega))
  rw [← e5.out] at HN4
  go_upto_region 10 with (go_at_call 57; refine HN4.out.mono ?_; rintro e x4 ⟨u4, c4, rfl, ho, hG, hV⟩; obtain ⟨v0, s0⟩ : ∃ x, x4.cell? ⟨gl, 8, none⟩ = some x := ⟨_, hG.loc.cell (i := 8) (by decide)⟩; obtain ⟨v1, s1⟩ : ∃ x, x4.cell? ⟨gl, 9, none⟩ = some x := ⟨_, hG.loc.cell (i := 9) (by decide)⟩; obtain ⟨v2, s2⟩ : ∃ x, x4.cell? ⟨gl, 10, none⟩ = some x := ⟨_, hG.loc.cell (i := 10) (by decide)⟩; have fz := hG.loc.frozen)
  have G4 := hidd (hG.mt (r := 2) (by decide) ⟨kv, (nW : Int), u4, b, c4, vnF B q4⟩ ho)
  have V4 := hidd (hV.put hG hvl hbb (((Chg.of_set x4 gl 8 (.int .i64 kv)).trans (Chg.of_set _ gl 9 (.int .i64 (nW : Int))) (fun _ _ e => e)).trans (Chg.of_set _ gl 10 (.slice u4 b c4)) (fun _ _ e => e)))
  clear HN4 s0 s1 s2 fz ho hG hV G3 V3
  simp only [Nat.reduceMul, Nat.reduceAdd] at G4
  generalize ((x4.setCell ⟨gl, 8, none⟩ (.int .i64 kv)).setCell ⟨gl, 9, none⟩ (.int .i64 (nW : Int))).setCell ⟨gl, 10, none⟩ (.slice u4 b c4) = y4 at *
  obtain ⟨m4, HM4⟩ : ∃ l, Hid (l = setMI m3 2 ⟨kv, (nW : Int), u4, b, c4, vnF B q4⟩) := ⟨_, rfl⟩
  rw [← HM4.out] at G4
  obtain ⟨q6, e6⟩ : ∃ q, Hid (q = q5 + a) := ⟨_, rfl⟩
  have HN5 := hidd (vl_mat G4.out hvl hbb V4.out pa ba (by have := e0.out; have := e1.out; have := e2.out; have := e3.out; have := e4.out; have := e5.out; omega))
  rw [← e6.out] at HN5
  go_upto_region 11 with (go_at_call 57; refine HN5.out.mono ?_; rintro e x5 ⟨u5, c5, rfl, ho, hG, hV⟩; obtain ⟨v0, s0⟩ : ∃ x, x5.cell? ⟨gl, 11, none⟩ = some x := ⟨_, hG.loc.cell (i := 11) (by decide)⟩; obtain ⟨v1, s1⟩ : ∃ x, x5.cell? ⟨gl, 12, none⟩ = some x := ⟨_, hG.loc.cell (i := 12) (by decide)⟩; obtain ⟨v2, s2⟩ : ∃ x, x5.cell? ⟨gl, 13, none⟩ = some x := ⟨_, hG.loc.cell (i := 13) (by decide)⟩; have fz := hG.loc.frozen)
  have G5 := hidd (hG.mt (r := 3) (by decide) ⟨(nW : Int), (nW : Int), u5, a, c5, vnF B q5⟩ ho)
  have V5 := hidd (hV.put hG hvl hbb (((Chg.of_set x5 gl 11 (.int .i64 (nW : Int))).trans (Chg.of_set _ gl 12 (.int .i64 (nW : Int))) (fun _ _ e => e)).trans (Chg.of_set _ gl 13 (.slice u5 a c5)) (fun _ _ e => e)))
  clear HN5 s0 s1 s2 fz ho hG hV G4 V4
  simp only [Nat.reduceMul, Nat.reduceAdd] at G5
  generalize ((x5.setCell ⟨gl, 11, none⟩ (.int .i64 (nW : Int))).setCell ⟨gl, 12, none⟩ (.int .i64 (nW : Int))).setCell ⟨gl, 13, none⟩ (.slice u5 a c5) = y5 at *
  obtain ⟨m5, HM5⟩ : ∃ l, Hid (l = setMI m4 3 ⟨(nW : Int), (nW : Int), u5, a, c5, vnF B q5⟩) := ⟨_, rfl⟩
  rw [← HM5.out] at G5
  obtain ⟨q7, e7⟩ : ∃ q, Hid (q = q6 + c) := ⟨_, rfl⟩
  have d5 : y5.cell? ⟨w.heap.size, 5, none⟩ = some (.int .i64 D) := G5.out.box.cell (i := 5) (by decide)
  have HN6 := hidd (vl_mat G5.out hvl hbb V5.out pc bc (by have := e0.out; have := e1.out; have := e2.out; have := e3.out; have := e4.out; have := e5.out; have := e6.out; omega))
  rw [← e7.out] at HN6
  go_upto_region 12 with (go_at_call 57; refine HN6.out.mono ?_; rintro e x6 ⟨u6, c6, rfl, ho, hG, hV⟩; obtain ⟨v0, s0⟩ : ∃ x, x6.cell? ⟨gl, 14, none⟩ = some x := ⟨_, hG.loc.cell (i := 14) (by decide)⟩; obtain ⟨v1, s1⟩ : ∃ x, x6.cell? ⟨gl, 15, none⟩ = some x := ⟨_, hG.loc.cell (i := 15) (by decide)⟩; obtain ⟨v2, s2⟩ : ∃ x, x6.cell? ⟨gl, 16, none⟩ = some x := ⟨_, hG.loc.cell (i := 16) (by decide)⟩; have fz := hG.loc.frozen)
  have G6 := hidd (hG.mt (r := 4) (by decide) ⟨D, (nW : Int), u6, c, c6, vnF B q6⟩ ho)
  have V6 := hidd (hV.put hG hvl hbb (((Chg.of_set x6 gl 14 (.int .i64 D)).trans (Chg.of_set _ gl 15 (.int .i64 (nW : Int))) (fun _ _ e => e)).trans (Chg.of_set _ gl 16 (.slice u6 c c6)) (fun _ _ e => e)))
  clear HN6 s0 s1 s2 fz ho hG hV G5 V5 d5
  simp only [Nat.reduceMul, Nat.reduceAdd] at G6
  generalize ((x6.setCell ⟨gl, 14, none⟩ (.int .i64 D)).setCell ⟨gl, 15, none⟩ (.int .i64 (nW : Int))).setCell ⟨gl, 16, none⟩ (.slice u6 c c6) = y6 at *
  obtain ⟨m6, HM6⟩ : ∃ l, Hid (l = setMI m5 4 ⟨D, (nW : Int), u6, c, c6, vnF B q6⟩) := ⟨_, rfl⟩
  rw [← HM6.out] at G6
  obtain ⟨q8, e8⟩ : ∃ q, Hid (q = q7 + c) := ⟨_, rfl⟩
  have d5 : y6.cell? ⟨w.heap.size, 5, none⟩ = some (.int .i64 D) := G6.out.box.cell (i := 5) (by decide)
  have HN7 := hidd (vl_mat G6.out hvl hbb V6.out pc bc (by have := e0.out; have := e1.out; have := e2.out; have := e3.out; have := e4.out; have := e5.out; have := e6.out; have := e7.out; omega))
  rw [← e8.out] at HN7
  go_upto_region 13 with (go_at_call 57; refine HN7.out.mono ?_; rintro e x7 ⟨u7, c7, rfl, ho, hG, hV⟩; obtain ⟨v0, s0⟩ : ∃ x, x7.cell? ⟨gl, 17, none⟩ = some x := ⟨_, hG.loc.cell (i := 17) (by decide)⟩; obtain ⟨v1, s1⟩ : ∃ x, x7.cell? ⟨gl, 18, none⟩ = some x := ⟨_, hG.loc.cell (i := 18) (by decide)⟩; obtain ⟨v2, s2⟩ : ∃ x, x7.cell? ⟨gl, 19, none⟩ = some x := ⟨_, hG.loc.cell (i := 19) (by decide)⟩; have fz := hG.loc.frozen)
  have G7 := hidd (hG.mt (r := 5) (by decide) ⟨D, (nW : Int), u7, c, c7, vnF B q7⟩ ho)
  have V7 := hidd (hV.put hG hvl hbb (((Chg.of_set x7 gl 17 (.int .i64 D)).trans (Chg.of_set _ gl 18 (.int .i64 (nW : Int))) (fun _ _ e => e)).trans (Chg.of_set _ gl 19 (.slice u7 c c7)) (fun _ _ e => e)))
  clear HN7 s0 s1 s2 fz ho hG hV G6 V6 d5
  simp only [Nat.reduceMul, Nat.reduceAdd] at G7
  generalize ((x7.setCell ⟨gl, 17, none⟩ (.int .i64 D)).setCell ⟨gl, 18, none⟩ (.int .i64 (nW : Int))).setCell ⟨gl, 19, none⟩ (.slice u7 c c7) = y7 at *
  obtain ⟨m7, HM7⟩ : ∃ l, Hid (l = setMI m6 5 ⟨D, (nW : Int), u7, c, c7, vnF B q7⟩) := ⟨_, rfl⟩
  rw [← HM7.out] at G7
  obtain ⟨q9, e9⟩ : ∃ q, Hid (q = q8 + c) := ⟨_, rfl⟩
  have d5 : y7.cell? ⟨w.heap.size, 5, none⟩ = some (.int .i64 D) := G7.out.box.cell (i := 5) (by decide)
  have HN8 := hidd (vl_mat G7.out hvl hbb V7.out pd bc (by have := e0.out; have := e1.out; have := e2.out; have := e3.out; have := e4.out; have := e5.out; have := e6.out; have := e7.out; have := e8.out; omega))
  rw [← e9.out] at HN8
  go_upto_region 14 with (go_at_call 57; refine HN8.out.mono ?_; rintro e x8 ⟨u8, c8, rfl, ho, hG, hV⟩; obtain ⟨v0, s0⟩ : ∃ x, x8.cell? ⟨gl, 20, none⟩ = some x := ⟨_, hG.loc.cell (i := 20) (by decide)⟩; obtain ⟨v1, s1⟩ : ∃ x, x8.cell? ⟨gl, 21, none⟩ = some x := ⟨_, hG.loc.cell (i := 21) (by decide)⟩; obtain ⟨v2, s2⟩ : ∃ x, x8.cell? ⟨gl, 22, none⟩ = some x := ⟨_, hG.loc.cell (i := 22) (by decide)⟩; have fz := hG.loc.frozen)
  have G8 := hidd (hG.mt (r := 6) (by decide) ⟨(nW : Int), D, u8, c, c8, vnF B q8⟩ ho)
  have V8 := hidd (hV.put hG hvl hbb (((Chg.of_set x8 gl 20 (.int .i64 (nW : Int))).trans (Chg.of_set _ gl 21 (.int .i64 D)) (fun _ _ e => e)).trans (Chg.of_set _ gl 22 (.slice u8 c c8)) (fun _ _ e => e)))
  clear HN8 s0 s1 s2 fz ho hG hV G7 V7 d5
  simp only [Nat.reduceMul, Nat.reduceAdd] at G8
  generalize ((x8.setCell ⟨gl, 20, none⟩ (.int .i64 (nW : Int))).setCell ⟨gl, 21, none⟩ (.int .i64 D)).setCell ⟨gl, 22, none⟩ (.slice u8 c c8) = y8 at *
  obtain ⟨m8, HM8⟩ : ∃ l, Hid (l = setMI m7 6 ⟨(nW : Int), D, u8, c, c8, vnF B q8⟩) := ⟨_, rfl⟩
  rw [← HM8.out] at G8
  -- the shifts
  obtain ⟨q10, e10⟩ : ∃ q, Hid (q = q9 + 7) := ⟨_, rfl⟩
  have h7 := vl_narrow G8.out hvl hbb V8.out (n := 7) (by decide) (by have := e0.out; have := e1.out; have := e2.out; have := e3.out; have := e4.out; have := e5.out; have := e6.out; have := e7.out; have := e8.out; have := e9.out; omega)
  rw [show (((7 : Nat) : Int)) = 7 from rfl, ← e10.out] at h7
  have H7 := hidd h7
  clear h7
  go_upto_region 15 with (go_at_call 60; refine H7.out.mono ?_; rintro e z1 ⟨u9, c9, rfl, ho, hG, hV⟩)
  obtain ⟨u8', c8', e9', hr9⟩ := ho.rd
  cases e9'
  have n1 := hr9.le
  have n2 := hr9.top
  unfold maxLen at n2
  obtain ⟨g, o, hu, hcl⟩ := hr9.one (by decide)
  subst hu
  have hgl : ¬ g = gl := by
    rcases ho.2 with ⟨q1, _⟩ | ⟨g', c', cur', q1, hb1, _⟩
    · cases q1
    · cases q1
      have := hb1
      omega
  have HG9 := hidd hG
  have HV9 := hidd hV
  have HCL := hidd hcl
  clear H7 ho hr9 hG hV hcl G8 V8
  go_wp2
  go_loopw [9] (fun iv wr => ∃ (i : Nat) (l : LyD), i ≤ 7 ∧ iv = .int .i64 i ∧ Hid (Lwd w wr v gl [V, (nW : Int), H, K, L, D, N, M] l) ∧ Hid (Vw wr v bb B q10) ∧ Hid (Chg z1 wr (fun x => x = gl)) ∧ Hid (l.n1 = m8.n1 ∧ l.n2 = m8.n2 ∧ (∀ r, r < 7 → mtI l r = mtI m8 r) ∧ ∀ j, j < i → l.sh j = vnF B q9 j)) (fun iv _ => 7 - (intOf iv).toNat)
  case atStart => exact ⟨0, m8, by omega, rfl, HG9, HV9, Chg.refl _ _, rfl, rfl, fun _ _ => rfl, fun j hj => absurd hj (by omega)⟩
  case round =>
    clear HG9 HV9
    obtain ⟨i, l, hi, rfl, HG, HV, HC, HK⟩ := hrel
    by_cases hlt : i < 7
    · have i1 : (i : Int) < 7 := by omega
      have i0 : (0 : Int) ≤ (i : Int) := by omega
      obtain ⟨x, hx⟩ : ∃ x, Hid (x = vnF B q9 i) := ⟨_, rfl⟩
      have bx := vnF_bd HBY.out q9 i
      rw [← hx.out] at bx
      have cx : wr.cell? ⟨g, o + i, none⟩ = some (.int .i8 x) := by rw [hx.out]; exact HC.out.cell (HCL.out i hlt) hgl
      have wx : IntKind.i64.wrap x = x := by rw [IntKind.wrap_i64]; omega
      obtain ⟨v0, s0⟩ : ∃ y, wr.cell? ⟨gl, 23 + i, none⟩ = some y := ⟨_, HG.out.loc.cell (i := 23 + i) (by omega)⟩
      have fz := HG.out.loc.frozen
      have HG2 := hidd (HG.out.sh hlt x)
      have HV2 := hidd (HV.out.put HG.out hvl hbb (Chg.of_set wr gl (23 + i) (.int .i64 x)))
      have HC2 := hidd (HC.out.trans (Chg.of_set wr gl (23 + i) (.int .i64 x)) (fun _ _ e => e))
      have HK2 : Hid (({ l with sh := updS l.sh i x } : LyD).n1 = m8.n1 ∧ ({ l with sh := updS l.sh i x } : LyD).n2 = m8.n2 ∧ (∀ r, r < 7 → mtI { l with sh := updS l.sh i x } r = mtI m8 r) ∧ ∀ j, j < i + 1 → ({ l with sh := updS l.sh i x } : LyD).sh j = vnF B q9 j) := by
        obtain ⟨k1, k2, k3, k4⟩ := HK.out
        refine ⟨k1, k2, fun r hr => ?_, fun j hj => ?_⟩
        · rw [← k3 r hr]
          match r, hr with
          | 0, _ | 1, _ | 2, _ | 3, _ | 4, _ | 5, _ | 6, _ => rfl
        · show updS l.sh i x j = _
          unfold updS
          by_cases e : j = i
          · rw [if_pos e, e, hx.out]
          · rw [if_neg e]; exact k4 j (by omega)
      obtain ⟨l2, hl2⟩ : ∃ l2 : LyD, Hid (l2 = ({ l with sh := updS l.sh i x } : LyD)) := ⟨_, rfl⟩
      rw [← hl2.out] at HG2 HK2
      clear HG HV HC HK
      go_wp2
      go_roundw
      case rel => exact ⟨i + 1, l2, by omega, by go_num, HG2, HV2, HC2, HK2⟩
      case measure => simp [intOf]; omega
    · have i1 : ¬ (i : Int) < 7 := by omega
      have RG' := row_range HG.out.loc rfl
      obtain ⟨T9, hT⟩ : ∃ T9, T9 = lyA l := ⟨_, rfl⟩
      have RG : Hid (wr.rangeAt gl 0 T9.toList) := by rw [hT]; exact RG'
      have SL : Hid ((Try.prog.info? 67).map (·.size) = some T9.toList.length) := by rw [hT]; exact sizeL
      have S30 : Hid ((Try.prog.info? 67).map (·.size) = some T9.size) := by rw [hT]; exact sizeL
      have H1 : Hid (T9.all (·.oneCell') = true) := by rw [hT]; exact lyA_one _
      obtain ⟨old, hold, hosz, _⟩ := HG.out.res
      have HOLD := hidd hold
      have HOSZ : Hid (old.size = T9.size) := by rw [hT]; exact hosz
      have HTT := hidd hT
      clear hold hosz hT RG'
      go_wp2_with (refine wpList_load_mid rfl 67 _ rfl gl 0 rfl T9.toList _ RG.out Try.underlying67 rfl SL.out (wpList_store_row rfl 67 _ _ rfl (w.heap.size + 1) T9 rfl rfl 67 old HOLD.out S30.out HOSZ.out H1.out ?_))
      refine bodyPost_ret (v := .agg T9) ?_ ?_ ?_
      · exact results_cell_row Try.results59 _ _ (w.heap.size + 1) 67 _ (0, 0) _ rfl (setRow_heap _ _ _ _ _ _ HOLD.out) Try.underlying67 rfl S30.out
      · rfl
      · refine ⟨l, by rw [HTT.out], ?_⟩
        obtain ⟨k1, k2, k3, k4⟩ := HK.out
        have hi7 : i = 7 := by omega
        rw [hi7] at k4
        exact vly_of T9 hvl hbb (vly_kn e0.out e1.out e2.out e3.out e4.out e5.out e6.out e7.out e8.out HM0.out HM1.out HM2.out HM3.out HM4.out HM5.out HM6.out HM7.out HM8.out k1 k2 k3) (by rw [e9.out, e8.out, e7.out, e6.out, e5.out, e4.out, e3.out, e2.out, e1.out, e0.out]; rfl) e10.out k4 HG.out HV.out
end Go.Proofs.Ytilghknalbhacaa
