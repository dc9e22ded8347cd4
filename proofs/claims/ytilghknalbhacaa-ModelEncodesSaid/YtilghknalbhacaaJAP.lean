import Derived.Test.YtilghknalbhacaaJAD
import Derived.Test.YtilghknalbhacaaCpE
import Derived.Test.YtilghknalbhacaaDvE
import Derived.Test.YtilghknalbhacaaDcK
namespace Go.Proofs.Ytilghknalbhacaa
open Go.RowKit
/-! A layer as bytes. -/
/-- the gains and the first r matrices -/
def mB (l : LyD) : Nat → List Int
  | 0 => nbL l.n1.f l.n1.n ++ nbL l.n2.f l.n2.n
  | r + 1 => mB l r ++ nbL (mtI l r).f (mtI l r).n
theorem mB_zero (l : LyD) : mB l 0 = nbL l.n1.f l.n1.n ++ nbL l.n2.f l.n2.n := rfl
theorem mB_succ (l : LyD) (r : Nat) : mB l (r + 1) = mB l r ++ nbL (mtI l r).f (mtI l r).n := rfl
def lyB (l : LyD) : List Int := mB l 7 ++ nbL l.sh 7
theorem mB_byt (l : LyD) : ∀ r, Byt (mB l r)
  | 0 => (nbL_byt _ _).app (nbL_byt _ _)
  | r + 1 => (mB_byt l r).app (nbL_byt _ _)
theorem lyB_byt (l : LyD) : Byt (lyB l) := (mB_byt l 7).app (nbL_byt _ _)
theorem mB_len {l : LyD} (hB : LyB l) (b1 : l.n1.n ≤ 1048576) (b2 : l.n2.n ≤ 1048576) : ∀ r, (mB l r).length ≤ (r + 2) * 1048576
  | 0 => by rw [mB_zero, List.length_append, nbL_len, nbL_len]; omega
  | r + 1 => by
    have := mB_len hB b1 b2 r
    have := hB.mat r
    rw [mB_succ, List.length_append, nbL_len]
    omega
theorem lyB_len {l : LyD} (hB : LyB l) (b1 : l.n1.n ≤ 1048576) (b2 : l.n2.n ≤ 1048576) : 0 < (lyB l).length ∧ (lyB l).length ≤ 10485760 := by
  have := mB_len hB b1 b2 7
  unfold lyB
  rw [List.length_append, nbL_len]
  omega
/-- a list that was there and one of the call's own -/
theorem rd_off {w z : World} {ao : Option Addr} {sz n cap : Nat} {cs : Nat → Value} (hs : 0 < sz) (h : RdA w ao sz n cap cs) {v : Value} {e : TypeId} {m : Nat} {c2 : Nat → Value} {b0 : Nat} (hb : w.heap.size ≤ b0) (ho : Own z b0 e 1 v m c2) : 0 < n → ∀ b off, ao = some ⟨b, off, none⟩ → v.ownBlock ≠ some b := fun h0 b off e9 q => by
  obtain ⟨b', off', e', hc⟩ := h.at_ h0
  rw [e9] at e'
  injection e' with e'
  injection e' with e1 _
  subst e1
  have h1 := lt_of_cell (hc 0 (Nat.mul_pos h0 hs))
  have h2 := (ho.lt _ q).1
  omega
theorem addN_in {w z : World} (f0 : Below w.heap.size w z) {b0 : Nat} (hw : w.heap.size ≤ b0) (hz : b0 ≤ z.heap.size) {v : Value} {L : List Int} (hv : OwB z b0 v L) (hL : L.length ≤ 1073741824) {ao : Option Addr} {n cap : Nat} {f : Nat → Int} (hr : RdA w ao 1 n cap (fun i => .int .i8 (f i))) (hn : n ≤ 1048576) (hf : ∀ i, i < n → -128 ≤ f i ∧ f i ≤ 127) :
    Calls Try.prog 79 #[v, .slice ao n cap] z fun e w' => ∃ v', e = .returned v' ∧ OwB w' b0 v' (L ++ nbL f n) ∧ Below b0 z w' := (addN_any hv hz hL (hr.fresh f0) hn (rd_off (by decide) hr hw hv) hf).mono fun e w' ⟨v', h1, h2, h3⟩ => ⟨v', h1, h2, h3.below (Below.refl _ _) hv (Nat.le_refl _) hz⟩
theorem narB_in {w z : World} (f0 : Below w.heap.size w z) {b0 : Nat} (hw : w.heap.size ≤ b0) (hz : b0 ≤ z.heap.size) {v : Value} {L : List Int} (hv : OwB z b0 v L) (hL : L.length ≤ 1073741824) {ao : Option Addr} {n cap : Nat} {f : Nat → Int} (hr : RdA w ao 1 n cap (fun i => .int .i8 (f i))) (hn : n ≤ 1048576) (hf : ∀ i, i < n → -128 ≤ f i ∧ f i ≤ 127) :
    Calls Try.prog 31 #[v, .slice ao n cap] z fun e w' => ∃ v', e = .returned v' ∧ OwB w' b0 v' (L ++ nbL f n) ∧ Below b0 z w' := (narB_any hv hz hL (hr.fresh f0) hn (rd_off (by decide) hr hw hv) hf).mono fun e w' ⟨v', h1, h2, h3⟩ => ⟨v', h1, h2, h3.below (Below.refl _ _) hv (Nat.le_refl _) hz⟩
end Go.Proofs.Ytilghknalbhacaa
namespace Go.Proofs.Ytilghknalbhacaa
open Go.RowKit
/-! The parts of the program's layer: its matrices by their number, its narrow lists, the bytes that they take. -/
/-- the k-th matrix of a layer, whichever -/
theorem matk_any {w : World} {r bb : Nat} {B : List Int} {p : Nat} {bad : Bool} (h : Rdr w r bb B p bad) (hbb : bb < w.heap.size) (V H K L D N M kv : Int) (nW a b c : Nat) (hH : 1 ≤ H) (hH4 : H ≤ 4) (hW : 2 ≤ (nW : Int)) (hW2 : (nW : Int) ≤ 32) (hkv : K * ((nW : Int) / H) = kv) (kv0 : 0 ≤ kv) (kv1 : kv ≤ 128) (pa : (nW : Int) * (nW : Int) = (a : Int)) (pb : kv * (nW : Int) = (b : Int)) (pc : D * (nW : Int) = (c : Int)) (pd : (nW : Int) * D = (c : Int)) (a0 : 0 < a) (b0 : 0 < b) (c0 : 0 < c) (ba : a ≤ 1048576) (bb1 : b ≤ 1048576) (bc : c ≤ 1048576) {k : Nat} (hk : k < 7) :
    Calls Try.prog 92 #[.pointer (some ⟨r, 0, none⟩), .agg #[.int .i64 V, .int .i64 (nW : Int), .int .i64 H, .int .i64 K, .int .i64 L, .int .i64 D, .int .i64 N, .int .i64 M], .agg #[rwI k, clI k]] w fun e w' => ∃ g, e = .returned (.agg #[.int .i64 (rowM nW kv D k), .int .i64 (colM nW D k), .slice (some ⟨g, 0, none⟩) (szM a b c k) (szM a b c k)]) ∧ MatP w w' r bb B p bad g (szM a b c k) := by
  match k, hk with
  | 0, _ => exact matQO h hbb V nW H K L D N M pa a0 ba
  | 1, _ => exact matKV h hbb V nW H K L D N M kv hH hH4 hW hW2 hkv kv0 kv1 pb b0 bb1
  | 2, _ => exact matKV h hbb V nW H K L D N M kv hH hH4 hW hW2 hkv kv0 kv1 pb b0 bb1
  | 3, _ => exact matQO h hbb V nW H K L D N M pa a0 ba
  | 4, _ => exact matGU h hbb V nW H K L D N M pc c0 bc
  | 5, _ => exact matGU h hbb V nW H K L D N M pc c0 bc
  | 6, _ => exact matD h hbb V nW H K L D N M pd c0 bc
/-- what a part of the layer's reader leaves, where the layer is put together in block gl -/
structure PlP (w wx w' : World) (r gl : Nat) (cf : List Int) (l : LyD) (bb : Nat) (B : List Int) (q : Nat) (bad : Bool) (g n : Nat) : Prop where
  lw : Lwd w w' r gl cf l
  chg : Chg wx w' (fun b => b = r)
  ex : ∃ f, Own w' (gl + 1) 84 1 (.slice (some ⟨g, 0, none⟩) n n) n (fun i => .int .i8 (f i)) ∧ (∀ i, i < n → -128 ≤ f i ∧ f i ≤ 127) ∧ ∃ q' bad', RdS B q bad q' bad' (nbL f n) (fun M => M.length = n) ∧ Rdr w' r bb B q' bad'
theorem PlP.pre {w wx z w' : World} {r gl : Nat} {cf : List Int} {l : LyD} {bb : Nat} {B : List Int} {q : Nat} {bad : Bool} {g n : Nat} (f : Below wx.heap.size wx z) (h : PlP w z w' r gl cf l bb B q bad g n) : PlP w wx w' r gl cf l bb B q bad g n := ⟨h.lw, Chg.pre f h.chg, h.ex⟩
theorem pl_narrow {w wx : World} {r bb gl : Nat} {cf : List Int} {l : LyD} {B : List Int} {q : Nat} {bad : Bool} (h : Lwd w wx r gl cf l) (hr : r < w.heap.size) (hbb : bb < w.heap.size) (hw : Rdr wx r bb B q bad) {n : Nat} (h0 : 0 < n) (hn : n ≤ 1048576) :
    Calls Try.prog 71 #[.pointer (some ⟨r, 0, none⟩), .int .i64 n] wx fun e w' => ∃ g, e = .returned (.slice (some ⟨g, 0, none⟩) n n) ∧ PlP w wx w' r gl cf l bb B q bad g n := by
  have hs := h.size
  have hg := h.hg
  refine (narrow_any hw (by omega) h0 hn).mono ?_
  rintro e w' ⟨rfl, f, ho, hb, hp⟩
  exact ⟨_, rfl, h.call hr hp.chg, hp.chg, f, ho.weaken hs, hb, hp.ex⟩
theorem pl_mat {w wx : World} {r bb gl : Nat} {cf : List Int} {l : LyD} {B : List Int} {q : Nat} {bad : Bool} (h : Lwd w wx r gl cf l) (hr : r < w.heap.size) (hbb : bb < w.heap.size) (hw : Rdr wx r bb B q bad) (V H K L D N M kv : Int) (nW a b c : Nat) (hH : 1 ≤ H) (hH4 : H ≤ 4) (hW : 2 ≤ (nW : Int)) (hW2 : (nW : Int) ≤ 32) (hkv : K * ((nW : Int) / H) = kv) (kv0 : 0 ≤ kv) (kv1 : kv ≤ 128) (pa : (nW : Int) * (nW : Int) = (a : Int)) (pb : kv * (nW : Int) = (b : Int)) (pc : D * (nW : Int) = (c : Int)) (pd : (nW : Int) * D = (c : Int)) (a0 : 0 < a) (b0 : 0 < b) (c0 : 0 < c) (ba : a ≤ 1048576) (bb1 : b ≤ 1048576) (bc : c ≤ 1048576) {k : Nat} (hk : k < 7) :
    Calls Try.prog 92 #[.pointer (some ⟨r, 0, none⟩), .agg #[.int .i64 V, .int .i64 (nW : Int), .int .i64 H, .int .i64 K, .int .i64 L, .int .i64 D, .int .i64 N, .int .i64 M], .agg #[rwI k, clI k]] wx fun e w' => ∃ g, e = .returned (.agg #[.int .i64 (rowM nW kv D k), .int .i64 (colM nW D k), .slice (some ⟨g, 0, none⟩) (szM a b c k) (szM a b c k)]) ∧ PlP w wx w' r gl cf l bb B q bad g (szM a b c k) := by
  have hs := h.size
  have hg := h.hg
  refine (matk_any hw (by omega) V H K L D N M kv nW a b c hH hH4 hW hW2 hkv kv0 kv1 pa pb pc pd a0 b0 c0 ba bb1 bc hk).mono ?_
  rintro e w' ⟨g, rfl, hm⟩
  obtain ⟨f, ho, hb, hp⟩ := hm.ex
  exact ⟨g, rfl, h.call hr hp.chg, hp.chg, f, ho.weaken hs, hb, hp.ex⟩
theorem Rdr.put {w wx : World} {r bb gl : Nat} {cf : List Int} {l : LyD} {B : List Int} {q : Nat} {bad : Bool} (hw : Rdr wx r bb B q bad) (h : Lwd w wx r gl cf l) (hr : r < w.heap.size) (hbb : bb < w.heap.size) {wy : World} (c : Chg wx wy (fun b => b = gl)) : Rdr wy r bb B q bad := hw.chg c (by have := h.hg; omega) (by have := h.hg; omega)
/-- parts of known lengths, one behind the other -/
theorem RdS.more {B : List Int} {p p1 p2 : Nat} {b b1 b2 : Bool} {M N : List Int} {m n : Nat} (h : RdS B p b p1 b1 M (fun X => X.length = m)) (k : RdS B p1 b1 p2 b2 N (fun X => X.length = n)) : RdS B p b p2 b2 (M ++ N) (fun X => X.length = m + n) := by
  refine (h.trans k).imp rfl (fun X => ⟨fun hX => ?_, ?_⟩)
  · exact ⟨X.take m, X.drop m, (List.take_append_drop m X).symm, by show (X.take m).length = m; rw [List.length_take]; have : X.length = m + n := hX; omega, by show (X.drop m).length = n; rw [List.length_drop]; have : X.length = m + n := hX; omega⟩
  · rintro ⟨Y, Z, rfl, hY, hZ⟩
    show (Y ++ Z).length = m + n
    rw [List.length_append, show Y.length = m from hY, show Z.length = n from hZ]
end Go.Proofs.Ytilghknalbhacaa
namespace Go.Proofs.Ytilghknalbhacaa
open Go.RowKit
/-! The loop over a layer's matrices, as data. -/
def lenM (nW a b c : Nat) : Nat → Nat
  | 0 => nW + nW
  | k + 1 => lenM nW a b c k + szM a b c k
/-- what is known of a layer whose first k matrices are read -/
structure KpL (l : LyD) (nW a b c : Nat) (kv D : Int) (k : Nat) : Prop where
  n1 : l.n1.n = nW ∧ ∀ i, i < nW → -128 ≤ l.n1.f i ∧ l.n1.f i ≤ 127
  n2 : l.n2.n = nW ∧ ∀ i, i < nW → -128 ≤ l.n2.f i ∧ l.n2.f i ≤ 127
  mt : ∀ j, j < k → (mtI l j).R = rowM nW kv D j ∧ (mtI l j).C = colM nW D j ∧ (mtI l j).n = szM a b c j ∧ ∀ i, i < szM a b c j → -128 ≤ (mtI l j).f i ∧ (mtI l j).f i ≤ 127
/-- the loop's state before its k-th round -/
structure LpS (w wr : World) (r gl bb g2 : Nat) (cf : List Int) (B : List Int) (p7 : Nat) (bad7 : Bool) (nW a b c : Nat) (kv D : Int) (k : Nat) : Prop where
  ex : ∃ l q bd, Lwd w wr r gl cf l ∧ Rdr wr r bb B q bd ∧ RdS B p7 bad7 q bd (mB l k) (fun X => X.length = lenM nW a b c k) ∧ KpL l nW a b c kv D k
  tab : ∀ j, j < 7 → wr.cell? ⟨g2, j * 2, none⟩ = some (rwI j) ∧ wr.cell? ⟨g2, j * 2 + 1, none⟩ = some (clI j)
theorem mB_setMI (l : LyD) {k : Nat} (m : MtD) (hk : k < 7) : ∀ j, j ≤ k → mB (setMI l k m) j = mB l j
  | 0, _ => by
    obtain ⟨e1, e2, _⟩ := setMI_rest l k m hk
    rw [mB_zero, mB_zero, e1, e2]
  | j + 1, hj => by
    rw [mB_succ, mB_succ, mB_setMI l m hk j (by omega), mtI_other l k j m hk (by omega) (by omega)]
theorem mB_next (l : LyD) {k : Nat} (m : MtD) (hk : k < 7) : mB (setMI l k m) (k + 1) = mB l k ++ nbL m.f m.n := by
  rw [mB_succ, mB_setMI l m hk k (Nat.le_refl _), mtI_same l k m hk]
theorem KpL.next {l : LyD} {nW a b c : Nat} {kv D : Int} {k : Nat} (h : KpL l nW a b c kv D k) (hk : k < 7) {m : MtD} (h1 : m.R = rowM nW kv D k) (h2 : m.C = colM nW D k) (h3 : m.n = szM a b c k) (h4 : ∀ i, i < szM a b c k → -128 ≤ m.f i ∧ m.f i ≤ 127) : KpL (setMI l k m) nW a b c kv D (k + 1) := by
  obtain ⟨e1, e2, _⟩ := setMI_rest l k m hk
  refine ⟨by rw [e1]; exact h.n1, by rw [e2]; exact h.n2, fun j hj => ?_⟩
  by_cases e : j = k
  · subst e
    rw [mtI_same l j m hk]
    exact ⟨h1, h2, h3, h4⟩
  · rw [mtI_other l k j m hk (by omega) e]
    exact h.mt j (by omega)
/-- one round: the k-th matrix is read and stored -/
theorem lps_next {w wr w' : World} {r gl bb g2 : Nat} {cf : List Int} {B : List Int} {p7 : Nat} {bad7 : Bool} {nW a b c : Nat} {kv D : Int} {k : Nat} {l : LyD} {q : Nat} {bd : Bool} {g : Nat} (hr : r < w.heap.size) (hbb : bb < w.heap.size) (hgl : gl < g2) (hrg : r < g2) (hk : k < 7)
    (hS : RdS B p7 bad7 q bd (mB l k) (fun X => X.length = lenM nW a b c k)) (hK : KpL l nW a b c kv D k) (tab : ∀ j, j < 7 → wr.cell? ⟨g2, j * 2, none⟩ = some (rwI j) ∧ wr.cell? ⟨g2, j * 2 + 1, none⟩ = some (clI j)) (hP : PlP w wr w' r gl cf l bb B q bd g (szM a b c k)) :
    LpS w (((w'.setCell ⟨gl, 2 + 3 * k, none⟩ (.int .i64 (rowM nW kv D k))).setCell ⟨gl, 2 + 3 * k + 1, none⟩ (.int .i64 (colM nW D k))).setCell ⟨gl, 2 + 3 * k + 2, none⟩ (.slice (some ⟨g, 0, none⟩) (szM a b c k) (szM a b c k))) r gl bb g2 cf B p7 bad7 nW a b c kv D (k + 1) := by
  obtain ⟨f, ho, hb, q', bd', hs, hR⟩ := hP.ex
  have cg : Chg w' (((w'.setCell ⟨gl, 2 + 3 * k, none⟩ (.int .i64 (rowM nW kv D k))).setCell ⟨gl, 2 + 3 * k + 1, none⟩ (.int .i64 (colM nW D k))).setCell ⟨gl, 2 + 3 * k + 2, none⟩ (.slice (some ⟨g, 0, none⟩) (szM a b c k) (szM a b c k))) (fun b => b = gl) := ((Chg.of_set w' _ _ _).trans (Chg.of_set _ _ _ _) (fun _ _ e => e)).trans (Chg.of_set _ _ _ _) (fun _ _ e => e)
  have G := hP.lw.mt hk ⟨rowM nW kv D k, colM nW D k, some ⟨g, 0, none⟩, szM a b c k, szM a b c k, f⟩ ho
  have hS2 := hS.more hs
  refine ⟨⟨_, q', bd', G, hR.put hP.lw hr hbb cg, ?_, hK.next hk rfl rfl rfl hb⟩, fun j hj => ⟨cg.cell (hP.chg.cell (tab j hj).1 (by show ¬ g2 = r; omega)) (by show ¬ g2 = gl; omega), cg.cell (hP.chg.cell (tab j hj).2 (by show ¬ g2 = r; omega)) (by show ¬ g2 = gl; omega)⟩⟩
  rw [mB_next l _ hk]
  exact hS2
end Go.Proofs.Ytilghknalbhacaa
namespace Go.Proofs.Ytilghknalbhacaa
open Go.RowKit
/-! What the program's layer leaves. -/
theorem mB_alike {l l' : LyD} (h1 : l'.n1 = l.n1) (h2 : l'.n2 = l.n2) : ∀ k, (∀ r, r < k → mtI l' r = mtI l r) → mB l' k = mB l k
  | 0, _ => by rw [mB_zero, mB_zero, h1, h2]
  | k + 1, h => by rw [mB_succ, mB_succ, mB_alike h1 h2 k (fun r hr => h r (by omega)), h k (by omega)]
theorem nbL_of {f : Nat → Int} {M : List Int} {n : Nat} (hn : M.length = n) (hM : Byt M) (h : ∀ i, i < n → f i = M.getD i 0) : nbL f n = M := by
  refine List.ext_getElem? (fun i => ?_)
  by_cases hi : i < n
  · have e := List.getElem?_eq_getElem (show i < M.length by omega)
    unfold nbL
    rw [List.getElem?_map, List.getElem?_range hi, e]
    show some (f i % 256) = some M[i]
    have hb := hM.at_ i
    rw [h i hi, Int.emod_eq_of_lt hb.1 hb.2, List.getD_eq_getElem?_getD, e]
    rfl
  · rw [List.getElem?_eq_none (by rw [nbL_len]; omega), List.getElem?_eq_none (by omega)]
theorem lyB_of {l l' : LyD} {M : List Int} (h1 : l'.n1 = l.n1) (h2 : l'.n2 = l.n2) (h3 : ∀ r, r < 7 → mtI l' r = mtI l r) (hn : M.length = 7) (hM : Byt M) (h : ∀ i, i < 7 → l'.sh i = M.getD i 0) : lyB l' = mB l 7 ++ M := by
  unfold lyB
  rw [mB_alike h1 h2 7 h3, nbL_of hn hM h]
theorem lenM_sz (nW a b c S : Nat) (h : szN (nW : Int) a b c 7 = (S : Int)) : lenM nW a b c 7 + 7 = S := by
  have e : szN (nW : Int) a b c 7 = 2 * (nW : Int) + 7 + a + b + b + a + c + c + c := rfl
  have e2 : lenM nW a b c 7 = nW + nW + a + b + b + a + c + c + c := rfl
  rw [e] at h
  omega
/-- what the program's layer leaves -/
structure LyQ (w w' : World) (r bb : Nat) (B : List Int) (p : Nat) (bad : Bool) (nW a b c : Nat) (kv D : Int) (l : LyD) : Prop where
  own : Lo w' (w.heap.size + 2) l
  kn : KpL l nW a b c kv D 7
  sh : ∀ i, i < 7 → 0 ≤ l.sh i ∧ l.sh i ≤ 255
  rdp : RdP w w' r bb B p bad (secL 76 (lyB l)) (SecS 76 (lenM nW a b c 7 + 7))
theorem lyq_of {w wr : World} {r bb gl : Nat} {cf : List Int} {B : List Int} {p p7 q : Nat} {bad bad7 bd : Bool} {nW a b c S : Nat} {kv D : Int} {l l' : LyD} (T9 : Array Value) (hrl : r < w.heap.size) (hbb : bb < w.heap.size) (hS : szN (nW : Int) a b c 7 = (S : Int))
    (h7 : RdS B p bad p7 bad7 (76 :: num S 4) (fun X => X = 76 :: num S 4)) (hs : RdS B p7 bad7 q bd (mB l 7) (fun X => X.length = lenM nW a b c 7)) (hK : KpL l nW a b c kv D 7) (hq : q ≤ B.length) (hB : Byt B)
    (h1 : l'.n1 = l.n1) (h2 : l'.n2 = l.n2) (h3 : ∀ r, r < 7 → mtI l' r = mtI l r) (h4 : ∀ i, i < 7 → l'.sh i = (tkB B q 7).getD i 0) (hG : Lwd w wr r gl cf l') (hR : Rdr wr r bb B (tkP B q 7) (bd || decide (B.length < q + 7))) : LyQ w (wr.setRow (w.heap.size + 1) T9) r bb B p bad nW a b c kv D l' := by
  have cg := Chg.of_setRow wr (w.heap.size + 1) T9
  have hg := hG.hg
  have hsz := lenM_sz nW a b c S hS
  refine ⟨(hG.own.chg cg (fun ho b e hb => by have := (ho.lt b e).1; omega)).weaken (by omega), ⟨by rw [h1]; exact hK.n1, by rw [h2]; exact hK.n2, fun j hj => by rw [h3 j hj]; exact hK.mt j hj⟩, fun i hi => ?_, ⟨_, _, ?_, hR.chg cg (by omega) (by omega)⟩, hG.chg.trans cg (fun x hx e => by omega)⟩
  · have := (tkB_byt hB q 7).at_ i
    rw [h4 i hi]
    omega
  · have hk := hs.more (RdS.take 7 bd hq)
    rw [← lyB_of h1 h2 h3 (tkB_len B q 7) (tkB_byt hB q 7) h4, hsz] at hk
    rw [hsz]
    exact sec_two h7 hk (fun _ e => e)
/-- the loop over the matrices begins -/
theorem lps_start {w y : World} {r gl bb g2 : Nat} {cf : List Int} {l : LyD} {B : List Int} {p7 q : Nat} {bad7 bd : Bool} {nW a b c : Nat} {kv D : Int} (hG : Lwd w y r gl cf l) (hR : Rdr y r bb B q bd) {f0 f1 : Nat → Int} (hS : RdS B p7 bad7 q bd (nbL f0 nW ++ nbL f1 nW) (fun X => X.length = nW + nW))
    (e1 : l.n1.n = nW ∧ l.n1.f = f0) (e2 : l.n2.n = nW ∧ l.n2.f = f1) (b0 : ∀ i, i < nW → -128 ≤ f0 i ∧ f0 i ≤ 127) (b1 : ∀ i, i < nW → -128 ≤ f1 i ∧ f1 i ≤ 127) (tab : ∀ j, j < 7 → y.cell? ⟨g2, j * 2, none⟩ = some (rwI j) ∧ y.cell? ⟨g2, j * 2 + 1, none⟩ = some (clI j)) : LpS w y r gl bb g2 cf B p7 bad7 nW a b c kv D 0 := by
  refine ⟨⟨l, q, bd, hG, hR, ?_, ⟨e1.1, fun i hi => by rw [e1.2]; exact b0 i hi⟩, ⟨e2.1, fun i hi => by rw [e2.2]; exact b1 i hi⟩, fun j hj => absurd hj (by omega)⟩, tab⟩
  rw [mB_zero, e1.1, e1.2, e2.1, e2.2]
  exact hS
end Go.Proofs.Ytilghknalbhacaa
