import Derived.Test.YtilghknalbhacaaJAR
import Derived.Test.YtilghknalbhacaaENX
import Derived.Test.YtilghknalbhacaaEPX
import Derived.Test.YtilghknalbhacaaDcT
namespace Go.Proofs.Ytilghknalbhacaa
open Go.RowKit
/-! What a file's bytes tell of the weights. -/
def headL (x : WtD) : List Int := beginL ++ secL 67 (cfL x.V x.W x.H x.K x.L x.D x.N x.M)
theorem yL_yB (x : WtD) : ∀ k, yL x k = h2L x ++ yB x.ly k
  | 0 => (List.append_nil _).symm
  | k + 1 => by
    rw [yL_succ, yL_yB x k]
    exact List.append_assoc _ _ _
theorem mL_mdB (x : WtD) : ∀ k, mL x k = e2L x ++ mdB x.md k
  | 0 => (List.append_nil _).symm
  | k + 1 => by
    rw [mL_succ, mL_mdB x k]
    exact List.append_assoc _ _ _
theorem mid_eq (x : WtD) : mL x x.mn = headL x ++ midL x := by
  rw [mL_mdB]
  unfold e2L e1L midL headL
  rw [yL_yB]
  unfold h2L h1L h0L
  simp only [List.append_assoc]
theorem file_eq (x : WtD) : fileL x = (headL x ++ midL x) ++ lastL (headL x ++ midL x) := by
  unfold fileL
  rw [mid_eq]
/-- how long the lists of weights are -/
structure WtL (V H K L D N M kv : Int) (nW nL nM tn P a b c : Nat) (x : WtD) : Prop where
  cf : x.V = V ∧ x.W = (nW : Int) ∧ x.H = H ∧ x.K = K ∧ x.L = L ∧ x.D = D ∧ x.N = N ∧ x.M = M
  E : x.E.R = V ∧ x.E.C = (nW : Int) ∧ x.E.n = P
  Q : x.Q.R = V ∧ x.Q.C = (nW : Int) ∧ x.Q.n = P
  F : x.F.n = nW
  T : x.tn = tn
  yn : x.yn = nL
  mn : x.mn = nM
  y1 : ∀ j, j < nL → (x.ly j).n1.n = nW
  y2 : ∀ j, j < nL → (x.ly j).n2.n = nW
  ym : ∀ j, j < nL → ∀ q, q < 7 → (mtI (x.ly j) q).R = rowM nW kv D q ∧ (mtI (x.ly j) q).C = colM nW D q ∧ (mtI (x.ly j) q).n = szM a b c q
  m : ∀ j, j < nM → (x.md j).R = V ∧ (x.md j).C = (nW : Int) ∧ (x.md j).n = P
theorem WtK.l {V H K L D N M kv : Int} {nW nL nM tn P a b c : Nat} {x : WtD} (h : WtK V H K L D N M kv nW nL nM tn P a b c x) : WtL V H K L D N M kv nW nL nM tn P a b c x :=
  ⟨h.cf, ⟨h.E.1, h.E.2.1, h.E.2.2.1⟩, ⟨h.Q.1, h.Q.2.1, h.Q.2.2.1⟩, h.F.1, h.T.1, h.yn, h.mn, fun j hj => (h.y j hj).1.n1.1, fun j hj => (h.y j hj).1.n2.1, fun j hj q hq => ⟨((h.y j hj).1.mt q hq).1, ((h.y j hj).1.mt q hq).2.1, ((h.y j hj).1.mt q hq).2.2.1⟩, fun j hj => ⟨(h.m j hj).1, (h.m j hj).2.1, (h.m j hj).2.2.1⟩⟩
/-- all numbers are what 8 bits, and 16, hold -/
structure WtI (x : WtD) : Prop where
  E : I8 x.E.f x.E.n
  Q : I8 x.Q.f x.Q.n
  F : I8 x.F.f x.F.n
  T : ∀ i, i < x.tn → (-32768 ≤ x.tC i ∧ x.tC i ≤ 32767) ∧ (-32768 ≤ x.tS i ∧ x.tS i ≤ 32767)
  y1 : ∀ j, j < x.yn → I8 (x.ly j).n1.f (x.ly j).n1.n
  y2 : ∀ j, j < x.yn → I8 (x.ly j).n2.f (x.ly j).n2.n
  ym : ∀ j, j < x.yn → ∀ q, q < 7 → I8 (mtI (x.ly j) q).f (mtI (x.ly j) q).n
  ys : ∀ j, j < x.yn → ∀ i, i < 7 → 0 ≤ (x.ly j).sh i ∧ (x.ly j).sh i ≤ 255
  m : ∀ j, j < x.mn → I8 (x.md j).f (x.md j).n
theorem WtK.i {V H K L D N M kv : Int} {nW nL nM tn P a b c : Nat} {x : WtD} (h : WtK V H K L D N M kv nW nL nM tn P a b c x) : WtI x := by
  refine ⟨by rw [h.E.2.2.1]; exact h.E.2.2.2, by rw [h.Q.2.2.1]; exact h.Q.2.2.2, by rw [h.F.1]; exact h.F.2, by rw [h.T.1]; exact h.T.2, fun j hj => ?_, fun j hj => ?_, fun j hj q hq => ?_, fun j hj => ?_, fun j hj => ?_⟩
  · rw [h.yn] at hj
    rw [(h.y j hj).1.n1.1]; exact (h.y j hj).1.n1.2
  · rw [h.yn] at hj
    rw [(h.y j hj).1.n2.1]; exact (h.y j hj).1.n2.2
  · rw [h.yn] at hj
    rw [((h.y j hj).1.mt q hq).2.2.1]; exact ((h.y j hj).1.mt q hq).2.2.2
  · rw [h.yn] at hj
    exact (h.y j hj).2
  · rw [h.mn] at hj
    rw [(h.m j hj).2.2.1]; exact (h.m j hj).2.2.2
theorem lyB_szl {l : LyD} {nW a b c : Nat} (h1 : l.n1.n = nW) (h2 : l.n2.n = nW) (hm : ∀ q, q < 7 → (mtI l q).n = szM a b c q) : (lyB l).length = lenM nW a b c 7 + 7 := by
  have key : ∀ k, k ≤ 7 → (mB l k).length = lenM nW a b c k := by
    intro k
    induction k with
    | zero => intro _; rw [mB_zero, List.length_append, nbL_len, nbL_len, h1, h2]; rfl
    | succ k ih => intro hk; rw [mB_succ, List.length_append, nbL_len, ih (by omega), hm k (by omega)]; rfl
  unfold lyB
  rw [List.length_append, nbL_len, key 7 (Nat.le_refl _)]
theorem rep_of {S : List Int → Prop} {f : Nat → List Int} (g : Nat → List Int) (h0 : g 0 = []) (hs : ∀ k, g (k + 1) = g k ++ f k) : ∀ n, (∀ j, j < n → S (f j)) → Rep S n (g n)
  | 0, _ => h0
  | n + 1, h => ⟨g n, f n, hs n, rep_of g h0 hs n (fun j hj => h j (by omega)), h n (by omega)⟩
theorem WtL.shm {V H K L D N M kv : Int} {nW nL nM tn P a b c : Nat} {x : WtD} (h : WtL V H K L D N M kv nW nL nM tn P a b c x) : ShM nW nL nM tn P a b c (midL x) := by
  refine ⟨_, _, rfl, ⟨_, _, rfl, ⟨_, _, rfl, ⟨_, _, rfl, ⟨_, _, rfl, ⟨_, ?_, rfl⟩, ⟨_, ?_, rfl⟩⟩, ?_⟩, ⟨_, ?_, rfl⟩⟩, ⟨_, ?_, rfl⟩⟩, ?_⟩
  · rw [nbL_len, h.E.2.2]
  · rw [trL_len, h.T]; omega
  · rw [h.yn]
    exact rep_of (f := fun k => secL 76 (lyB (x.ly k))) (yB x.ly) rfl (fun _ => rfl) nL (fun j hj => ⟨_, lyB_szl (h.y1 j hj) (h.y2 j hj) (fun q hq => (h.ym j hj q hq).2.2), rfl⟩)
  · rw [nbL_len, h.F]
  · rw [nbL_len, h.Q.2.2]
  · rw [h.mn]
    exact rep_of (f := fun k => secL 77 (nbL (x.md k).f (x.md k).n)) (mdB x.md) rfl (fun _ => rfl) nM (fun j hj => ⟨_, by rw [nbL_len, (h.m j hj).2.2], rfl⟩)
/-! Equal bytes, equal numbers. -/
theorem nbL_inj {f g : Nat → Int} {n : Nat} (h : nbL f n = nbL g n) (hf : I8 f n) (hg : I8 g n) : ∀ i, i < n → f i = g i := fun i hi => by
  have e : (nbL f n)[i]? = (nbL g n)[i]? := by rw [h]
  unfold nbL at e
  rw [List.getElem?_map, List.getElem?_map, List.getElem?_range hi] at e
  have e2 : f i % 256 = g i % 256 := Option.some.inj e
  have := hf i hi
  have := hg i hi
  omega
theorem num2_inj {u v : Nat} (h : num u 2 = num v 2) : u % 65536 = v % 65536 := by
  have e : num u 2 = [((u / 256 ^ 0 % 256 : Nat) : Int), ((u / 256 ^ 1 % 256 : Nat) : Int)] := rfl
  have e2 : num v 2 = [((v / 256 ^ 0 % 256 : Nat) : Int), ((v / 256 ^ 1 % 256 : Nat) : Int)] := rfl
  rw [e, e2] at h
  injection h with h1 h2
  injection h2 with h3 _
  have a1 := Int.ofNat.inj h1
  have a3 := Int.ofNat.inj h3
  simp only [Nat.pow_zero, Nat.div_one, Nat.pow_one] at a1 a3
  omega
theorem trL_inj {C S C' S' : Nat → Int} : ∀ n, trL C S n = trL C' S' n → (∀ i, i < n → (-32768 ≤ C i ∧ C i ≤ 32767) ∧ (-32768 ≤ S i ∧ S i ≤ 32767)) → (∀ i, i < n → (-32768 ≤ C' i ∧ C' i ≤ 32767) ∧ (-32768 ≤ S' i ∧ S' i ≤ 32767)) → ∀ i, i < n → C i = C' i ∧ S i = S' i
  | 0, _, _, _ => fun i hi => absurd hi (by omega)
  | n + 1, h, a, b => fun i hi => by
    rw [trL_succ, trL_succ] at h
    obtain ⟨h1, h2⟩ := pre_same h (by rw [List.length_append, List.length_append, trL_len, trL_len, num_len, num_len])
    obtain ⟨h3, h4⟩ := pre_same h1 (by rw [trL_len, trL_len])
    by_cases e : i = n
    · subst e
      have a1 := a i (by omega)
      have b1 := b i (by omega)
      have k1 := num2_inj h4
      have k2 := num2_inj h2
      unfold u64of at k1 k2
      omega
    · exact trL_inj n h3 (fun j hj => a j (by omega)) (fun j hj => b j (by omega)) i (by omega)
theorem secL_inj {c : Int} {M N : List Int} (h : secL c M = secL c N) (hl : M.length = N.length) : M = N := by
  unfold secL at h
  rw [hl] at h
  injection h with _ h2
  exact List.append_cancel_left h2
theorem app_same {A B C D : List Int} (h : A ++ B = C ++ D) (hl : B.length = D.length) : A = C ∧ B = D := by
  have : (A ++ B).length = (C ++ D).length := by rw [h]
  rw [List.length_append, List.length_append] at this
  exact pre_same h (by omega)
/-- the same numbers, as far as the lists go -/
structure AlL (l m : LyD) (nW a b c : Nat) : Prop where
  n1 : ∀ i, i < nW → l.n1.f i = m.n1.f i
  n2 : ∀ i, i < nW → l.n2.f i = m.n2.f i
  mt : ∀ q, q < 7 → ∀ i, i < szM a b c q → (mtI l q).f i = (mtI m q).f i
  sh : ∀ i, i < 7 → l.sh i = m.sh i
structure Al (x y : WtD) (nW nL nM tn P a b c : Nat) : Prop where
  E : ∀ i, i < P → x.E.f i = y.E.f i
  Q : ∀ i, i < P → x.Q.f i = y.Q.f i
  F : ∀ i, i < nW → x.F.f i = y.F.f i
  T : ∀ i, i < tn → x.tC i = y.tC i ∧ x.tS i = y.tS i
  ly : ∀ j, j < nL → AlL (x.ly j) (y.ly j) nW a b c
  md : ∀ j, j < nM → ∀ i, i < P → (x.md j).f i = (y.md j).f i
theorem alL_of {l m : LyD} {nW a b c : Nat} (h1 : l.n1.n = nW) (h2 : l.n2.n = nW) (hm : ∀ q, q < 7 → (mtI l q).n = szM a b c q) (k1 : m.n1.n = nW) (k2 : m.n2.n = nW) (km : ∀ q, q < 7 → (mtI m q).n = szM a b c q)
    (i1 : I8 l.n1.f l.n1.n) (i2 : I8 l.n2.f l.n2.n) (im : ∀ q, q < 7 → I8 (mtI l q).f (mtI l q).n) (is' : ∀ i, i < 7 → 0 ≤ l.sh i ∧ l.sh i ≤ 255) (j1 : I8 m.n1.f m.n1.n) (j2 : I8 m.n2.f m.n2.n) (jm : ∀ q, q < 7 → I8 (mtI m q).f (mtI m q).n) (js : ∀ i, i < 7 → 0 ≤ m.sh i ∧ m.sh i ≤ 255)
    (h : lyB l = lyB m) : AlL l m nW a b c := by
  unfold lyB at h
  obtain ⟨e1, e2⟩ := app_same h (by rw [nbL_len, nbL_len])
  have key : ∀ k, k ≤ 7 → mB l k = mB m k → (∀ i, i < nW → l.n1.f i = m.n1.f i) ∧ (∀ i, i < nW → l.n2.f i = m.n2.f i) ∧ ∀ q, q < k → ∀ i, i < szM a b c q → (mtI l q).f i = (mtI m q).f i := by
    intro k
    induction k with
    | zero =>
      intro _ e
      rw [mB_zero, mB_zero] at e
      obtain ⟨a1, a2⟩ := pre_same e (by rw [nbL_len, nbL_len, h1, k1])
      rw [h1, k1] at a1
      rw [h2, k2] at a2
      rw [h1] at i1
      rw [k1] at j1
      rw [h2] at i2
      rw [k2] at j2
      exact ⟨nbL_inj a1 i1 j1, nbL_inj a2 i2 j2, fun q hq => absurd hq (by omega)⟩
    | succ k ih =>
      intro hk e
      rw [mB_succ, mB_succ] at e
      obtain ⟨a1, a2⟩ := app_same e (by rw [nbL_len, nbL_len, hm k (by omega), km k (by omega)])
      obtain ⟨b1, b2, b3⟩ := ih (by omega) a1
      refine ⟨b1, b2, fun q hq => ?_⟩
      by_cases eq : q = k
      · subst eq
        have x1 := im q (by omega)
        have x2 := jm q (by omega)
        rw [hm q (by omega)] at a2 x1
        rw [km q (by omega)] at a2 x2
        exact nbL_inj a2 x1 x2
      · exact b3 q (by omega)
  obtain ⟨b1, b2, b3⟩ := key 7 (Nat.le_refl _) e1
  refine ⟨b1, b2, b3, fun i hi => ?_⟩
  have e : (nbL l.sh 7)[i]? = (nbL m.sh 7)[i]? := by rw [e2]
  unfold nbL at e
  rw [List.getElem?_map, List.getElem?_map, List.getElem?_range hi] at e
  have e3 : l.sh i % 256 = m.sh i % 256 := Option.some.inj e
  have := is' i hi
  have := js i hi
  omega
theorem al_of {V H K L D N M kv : Int} {nW nL nM tn P a b c : Nat} {x y : WtD} (hx : WtL V H K L D N M kv nW nL nM tn P a b c x) (hy : WtL V H K L D N M kv nW nL nM tn P a b c y) (ix : WtI x) (iy : WtI y) (h : midL x = midL y) : Al x y nW nL nM tn P a b c := by
  unfold midL at h
  have lY : ∀ j, j < nL → (lyB (x.ly j)).length = (lyB (y.ly j)).length := fun j hj => by
    rw [lyB_szl (hx.y1 j hj) (hx.y2 j hj) (fun q hq => (hx.ym j hj q hq).2.2), lyB_szl (hy.y1 j hj) (hy.y2 j hj) (fun q hq => (hy.ym j hj q hq).2.2)]
  have lM : ∀ k, k ≤ nM → (mdB x.md k).length = (mdB y.md k).length := by
    intro k
    induction k with
    | zero => intro _; rfl
    | succ k ih =>
      intro hk
      show (mdB x.md k ++ _).length = (mdB y.md k ++ _).length
      rw [List.length_append, List.length_append, ih (by omega), secL_len, secL_len, nbL_len, nbL_len, (hx.m k (by omega)).2.2, (hy.m k (by omega)).2.2]
  have lYB : ∀ k, k ≤ nL → (yB x.ly k).length = (yB y.ly k).length := by
    intro k
    induction k with
    | zero => intro _; rfl
    | succ k ih =>
      intro hk
      show (yB x.ly k ++ _).length = (yB y.ly k ++ _).length
      rw [List.length_append, List.length_append, ih (by omega), secL_len, secL_len, lY k (by omega)]
  obtain ⟨h, hM⟩ := app_same h (by rw [hx.mn, hy.mn]; exact lM nM (Nat.le_refl _))
  obtain ⟨h, hQ⟩ := app_same h (by rw [secL_len, secL_len, nbL_len, nbL_len, hx.Q.2.2, hy.Q.2.2])
  obtain ⟨h, hF⟩ := app_same h (by rw [secL_len, secL_len, nbL_len, nbL_len, hx.F, hy.F])
  obtain ⟨h, hY⟩ := app_same h (by rw [hx.yn, hy.yn]; exact lYB nL (Nat.le_refl _))
  obtain ⟨hE, hT⟩ := app_same h (by rw [secL_len, secL_len, trL_len, trL_len, hx.T, hy.T])
  replace hE := secL_inj hE (by rw [nbL_len, nbL_len, hx.E.2.2, hy.E.2.2])
  replace hT := secL_inj hT (by rw [trL_len, trL_len, hx.T, hy.T])
  replace hF := secL_inj hF (by rw [nbL_len, nbL_len, hx.F, hy.F])
  replace hQ := secL_inj hQ (by rw [nbL_len, nbL_len, hx.Q.2.2, hy.Q.2.2])
  have iE := ix.E
  have jE := iy.E
  have iQ := ix.Q
  have jQ := iy.Q
  have iF := ix.F
  have jF := iy.F
  have iT := ix.T
  have jT := iy.T
  rw [hx.E.2.2] at hE iE
  rw [hy.E.2.2] at hE jE
  rw [hx.Q.2.2] at hQ iQ
  rw [hy.Q.2.2] at hQ jQ
  rw [hx.F] at hF iF
  rw [hy.F] at hF jF
  rw [hx.T] at hT iT
  rw [hy.T] at hT jT
  rw [hx.yn, hy.yn] at hY
  rw [hx.mn, hy.mn] at hM
  refine ⟨nbL_inj hE iE jE, nbL_inj hQ iQ jQ, nbL_inj hF iF jF, trL_inj tn hT iT jT, ?_, ?_⟩
  · have key : ∀ k, k ≤ nL → yB x.ly k = yB y.ly k → ∀ j, j < k → AlL (x.ly j) (y.ly j) nW a b c := by
      intro k
      induction k with
      | zero => intro _ _ j hj; exact absurd hj (by omega)
      | succ k ih =>
        intro hk e j hj
        obtain ⟨e1, e2⟩ := app_same (A := yB x.ly k) (C := yB y.ly k) e (by rw [secL_len, secL_len, lY k (by omega)])
        by_cases ej : j = k
        · subst ej
          have e3 := secL_inj e2 (lY j (by omega))
          have jx : j < x.yn := by rw [hx.yn]; omega
          have jy : j < y.yn := by rw [hy.yn]; omega
          exact alL_of (hx.y1 j (by omega)) (hx.y2 j (by omega)) (fun q hq => (hx.ym j (by omega) q hq).2.2) (hy.y1 j (by omega)) (hy.y2 j (by omega)) (fun q hq => (hy.ym j (by omega) q hq).2.2) (ix.y1 j jx) (ix.y2 j jx) (ix.ym j jx) (ix.ys j jx) (iy.y1 j jy) (iy.y2 j jy) (iy.ym j jy) (iy.ys j jy) e3
        · exact ih (by omega) e1 j (by omega)
    exact key nL (Nat.le_refl _) hY
  · have key : ∀ k, k ≤ nM → mdB x.md k = mdB y.md k → ∀ j, j < k → ∀ i, i < P → (x.md j).f i = (y.md j).f i := by
      intro k
      induction k with
      | zero => intro _ _ j hj; exact absurd hj (by omega)
      | succ k ih =>
        intro hk e j hj
        obtain ⟨e1, e2⟩ := app_same (A := mdB x.md k) (C := mdB y.md k) e (by rw [secL_len, secL_len, nbL_len, nbL_len, (hx.m k (by omega)).2.2, (hy.m k (by omega)).2.2])
        by_cases ej : j = k
        · subst ej
          have e3 := secL_inj e2 (by rw [nbL_len, nbL_len, (hx.m j (by omega)).2.2, (hy.m j (by omega)).2.2])
          have x1 := ix.m j (by rw [hx.mn]; omega)
          have x2 := iy.m j (by rw [hy.mn]; omega)
          rw [(hx.m j (by omega)).2.2] at e3 x1
          rw [(hy.m j (by omega)).2.2] at e3 x2
          exact nbL_inj e3 x1 x2
        · exact ih (by omega) e1 j (by omega)
    exact key nM (Nat.le_refl _) hM
end Go.Proofs.Ytilghknalbhacaa
namespace Go.Proofs.Ytilghknalbhacaa
open Go.RowKit
/-! The measures of a file; when bytes are a file. -/
theorem nat_of {x : Int} (h : 0 ≤ x) : ∃ n : Nat, x = (n : Int) := ⟨x.toNat, (Int.toNat_of_nonneg h).symm⟩
theorem prod_bd {x y m : Int} (hx : 1 ≤ x) (hxm : x ≤ 1024) (hy : 1 ≤ y) (hym : y ≤ m) (hm : m ≤ 1024) : 0 < x * y ∧ x * y ≤ 1048576 := by
  have h1 : 0 < x * y := Int.mul_pos (by omega) (by omega)
  have h2 : x * y ≤ 1024 * 1024 := Int.mul_le_mul hxm (by omega) (by omega) (by omega)
  exact ⟨h1, by omega⟩
theorem dm_of {V W H K L D N M : Int} (h : may V W H K L D N M) : ∃ kv nW nL nM tn P a b c, W = ((nW : Nat) : Int) ∧ Dm V H K L D N M kv nW nL nM tn P a b c := by
  obtain ⟨⟨v0, v1⟩, ⟨w0, w1⟩, ⟨h0, h1⟩, hd, ⟨k0, k1⟩, _, ⟨l0, l1⟩, ⟨d0, d1⟩, _, ⟨m0, m1⟩⟩ := h
  have hkv := kv_bd h0 k0 k1 w0 w1
  have hh := half_pos hd h0 w0
  have hq : 0 ≤ W / H := Int.ediv_nonneg (by omega) (by omega)
  have hq2 : W / H ≤ W := Int.ediv_le_self _ (by omega)
  have hkp : 1 ≤ K * (W / H) := Int.mul_pos (by omega) (by omega)
  obtain ⟨nW, rfl⟩ := nat_of (show 0 ≤ W by omega)
  obtain ⟨nL, hL⟩ := nat_of (show 0 ≤ L by omega)
  obtain ⟨nM, hM⟩ := nat_of m0
  obtain ⟨tn, ht⟩ := nat_of (show 0 ≤ (nW : Int) / H / 2 by omega)
  have pP := prod_bd (x := V) (y := (nW : Int)) (m := 1024) (by omega) (by omega) (by omega) (by omega) (by omega)
  have pA := prod_bd (x := (nW : Int)) (y := (nW : Int)) (m := 1024) (by omega) (by omega) (by omega) (by omega) (by omega)
  have pB := prod_bd (x := K * ((nW : Int) / H)) (y := (nW : Int)) (m := 1024) (by omega) (by omega) (by omega) (by omega) (by omega)
  have pC := prod_bd (x := D) (y := (nW : Int)) (m := 1024) (by omega) (by omega) (by omega) (by omega) (by omega)
  obtain ⟨P, hP⟩ := nat_of (Int.le_of_lt pP.1)
  obtain ⟨a, ha⟩ := nat_of (Int.le_of_lt pA.1)
  obtain ⟨b, hb⟩ := nat_of (Int.le_of_lt pB.1)
  obtain ⟨c, hc⟩ := nat_of (Int.le_of_lt pC.1)
  refine ⟨_, nW, nL, nM, tn, P, a, b, c, rfl, ⟨h0, h1, w0, w1, rfl, hkv.1, hkv.2, ha, hb, hc, by rw [Int.mul_comm]; exact hc, ?_, ?_, ?_, ?_, ?_, ?_, hL, by omega, hM, by omega, ht, by omega, by omega, hP, ?_, ?_⟩⟩
  · rw [ha] at pA; omega
  · rw [hb] at pB; omega
  · rw [hc] at pC; omega
  · rw [ha] at pA; omega
  · rw [hb] at pB; omega
  · rw [hc] at pC; omega
  · rw [hP] at pP; omega
  · rw [hP] at pP; omega
theorem shp_mul {R C : Int} {n : Nat} (h : shp R C n = true) : (n : Int) = R * C := by
  unfold shp at h
  simp only [Bool.and_eq_true, decide_eq_true_eq, beq_iff_eq] at h
  obtain ⟨h1, h2, h3, h4⟩ := h
  have h5 := Int.emod_add_mul_ediv (n : Int) C
  rw [h3, h4] at h5
  rw [Int.mul_comm]
  omega
theorem MtD.isa.len {m : MtD} {r c : Int} {P : Nat} (h : m.isa r c) (hP : r * c = (P : Int)) : m.R = r ∧ m.C = c ∧ m.n = P := by
  obtain ⟨⟨h1, _⟩, h2, h3⟩ := h
  have := shp_mul h1
  rw [h2, h3, hP] at this
  exact ⟨h2, h3, by omega⟩
theorem WtP.l {V H K L D N M kv : Int} {nW nL nM tn P a b c : Nat} {x : WtD} (hd : Dm V H K L D N M kv nW nL nM tn P a b c) (hc : x.V = V ∧ x.W = (nW : Int) ∧ x.H = H ∧ x.K = K ∧ x.L = L ∧ x.D = D ∧ x.N = N ∧ x.M = M) (hp : WtP x) : WtL V H K L D N M kv nW nL nM tn P a b c x := by
  obtain ⟨c0, c1, c2, c3, c4, c5, c6, c7⟩ := hc
  have hE := hp.E
  have hQ := hp.Q
  have hF := hp.F.1
  have hT := hp.T.1
  have hyn := hp.yn
  have hmn := hp.mn
  have hy := hp.y
  have hm := hp.m
  rw [c0, c1] at hE hQ
  rw [c1] at hF
  rw [c1, c2, hd.t1] at hT
  rw [c4, hd.L1] at hyn
  rw [c7, hd.M1] at hmn
  have yn : x.yn = nL := by omega
  have mn : x.mn = nM := by omega
  have hF' : ((x.F.n : Nat) : Int) = (nW : Int) := hF
  have ly : ∀ j, j < nL → LyP (x.ly j) (nW : Int) kv D := fun j hj => by
    have := hy j (by omega)
    rw [c1, c2, c3, c5, hd.kve] at this
    exact this
  refine ⟨⟨c0, c1, c2, c3, c4, c5, c6, c7⟩, hE.len hd.P1, hQ.len hd.P1, by omega, by omega, yn, mn, fun j hj => ?_, fun j hj => ?_, fun j hj q hq => ?_, fun j hj => ?_⟩
  · have : (((x.ly j).n1.n : Nat) : Int) = (nW : Int) := (ly j hj).n1.1
    omega
  · have : (((x.ly j).n2.n : Nat) : Int) = (nW : Int) := (ly j hj).n2.1
    omega
  · have h := ly j hj
    match q, hq with
    | 0, _ => exact h.q.len hd.pa
    | 1, _ => exact h.k.len hd.pb
    | 2, _ => exact h.v.len hd.pb
    | 3, _ => exact h.o.len hd.pa
    | 4, _ => exact h.g.len hd.pc
    | 5, _ => exact h.u.len hd.pc
    | 6, _ => exact h.d.len hd.pd
  · have := hm j (by omega)
    rw [c0, c1] at this
    exact this.len hd.P1
theorem MtD.isa.move {m m' : MtD} {r c : Int} (h : m.isa r c) (e1 : m'.R = m.R) (e2 : m'.C = m.C) (e3 : m'.n = m.n) (e : ∀ i, i < m.n → m'.f i = m.f i) : m'.isa r c := by
  obtain ⟨⟨h1, h2⟩, h3, h4⟩ := h
  refine ⟨⟨by rw [e1, e2, e3]; exact h1, fun i hi => ?_⟩, by rw [e1]; exact h3, by rw [e2]; exact h4⟩
  rw [e3] at hi
  rw [e i hi]
  exact h2 i hi
theorem LsD.gains.move {m m' : LsD} {W : Int} (h : m.gains W) (e3 : m'.n = m.n) (e : ∀ i, i < m.n → m'.f i = m.f i) : m'.gains W := by
  obtain ⟨h1, h2⟩ := h
  refine ⟨by rw [e3]; exact h1, fun i hi => ?_⟩
  rw [e3] at hi
  rw [e i hi]
  exact h2 i hi
theorem WtP.move {V H K L D N M kv : Int} {nW nL nM tn P a b c : Nat} {x y : WtD} (hx : WtL V H K L D N M kv nW nL nM tn P a b c x) (hy : WtL V H K L D N M kv nW nL nM tn P a b c y) (ha : Al x y nW nL nM tn P a b c) (hp : WtP y) : WtP x := by
  obtain ⟨c0, c1, c2, c3, c4, c5, c6, c7⟩ := hx.cf
  obtain ⟨d0, d1, d2, d3, d4, d5, d6, d7⟩ := hy.cf
  refine ⟨?_, ?_, ?_, ?_, ?_, ?_, fun j hj => ?_, fun j hj => ?_⟩
  · rw [c0, c1, ← d0, ← d1]
    exact hp.E.move (by rw [hx.E.1, hy.E.1]) (by rw [hx.E.2.1, hy.E.2.1]) (by rw [hx.E.2.2, hy.E.2.2]) (fun i hi => ha.E i (by rw [hy.E.2.2] at hi; exact hi))
  · rw [c0, c1, ← d0, ← d1]
    exact hp.Q.move (by rw [hx.Q.1, hy.Q.1]) (by rw [hx.Q.2.1, hy.Q.2.1]) (by rw [hx.Q.2.2, hy.Q.2.2]) (fun i hi => ha.Q i (by rw [hy.Q.2.2] at hi; exact hi))
  · rw [c1, ← d1]
    exact hp.F.move (by rw [hx.F, hy.F]) (fun i hi => ha.F i (by rw [hy.F] at hi; exact hi))
  · rw [c1, c2, ← d1, ← d2]
    refine ⟨by rw [hx.T, ← hy.T]; exact hp.T.1, fun i hi => ?_⟩
    rw [hx.T] at hi
    rw [(ha.T i hi).1, (ha.T i hi).2]
    exact hp.T.2 i (by rw [hy.T]; exact hi)
  · rw [hx.yn, c4, ← hy.yn, ← d4]; exact hp.yn
  · rw [hx.mn, c7, ← hy.mn, ← d7]; exact hp.mn
  · rw [hx.yn] at hj
    rw [c1, c2, c3, c5, ← d1, ← d2, ← d3, ← d5]
    have h := hp.y j (by rw [hy.yn]; exact hj)
    have al := ha.ly j hj
    have hm := hx.ym j hj
    have km := hy.ym j hj
    have mv : ∀ q, q < 7 → ∀ {r s : Int}, (mtI (y.ly j) q).isa r s → (mtI (x.ly j) q).isa r s := fun q hq r s hh => hh.move (by rw [(hm q hq).1, (km q hq).1]) (by rw [(hm q hq).2.1, (km q hq).2.1]) (by rw [(hm q hq).2.2, (km q hq).2.2]) (fun i hi => al.mt q hq i (by rw [(km q hq).2.2] at hi; exact hi))
    exact ⟨h.n1.move (by rw [hx.y1 j hj, hy.y1 j hj]) (fun i hi => al.n1 i (by rw [hy.y1 j hj] at hi; exact hi)), h.n2.move (by rw [hx.y2 j hj, hy.y2 j hj]) (fun i hi => al.n2 i (by rw [hy.y2 j hj] at hi; exact hi)), mv 0 (by decide) h.q, mv 3 (by decide) h.o, mv 1 (by decide) h.k, mv 2 (by decide) h.v, mv 4 (by decide) h.g, mv 5 (by decide) h.u, mv 6 (by decide) h.d, fun i hi => by rw [al.sh i hi]; exact h.sh i hi⟩
  · rw [hx.mn] at hj
    rw [c0, c1, ← d0, ← d1]
    have h1 := hx.m j hj
    have h2 := hy.m j hj
    exact (hp.m j (by rw [hy.mn]; exact hj)).move (by rw [h1.1, h2.1]) (by rw [h1.2.1, h2.2.1]) (by rw [h1.2.2, h2.2.2]) (fun i hi => ha.md j hj i (by rw [h2.2.2] at hi; exact hi))
end Go.Proofs.Ytilghknalbhacaa
