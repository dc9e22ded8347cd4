import Derived.Test.YtilghknalbhacaaJAQ
import Derived.Test.YtilghknalbhacaaDcO
namespace Go.Proofs.Ytilghknalbhacaa
open Go.RowKit
/-! The reader's weights: its two loops, as data. -/
theorem two_assoc {A B C : List Int → Prop} (X : List Int) : Two A (Two B C) X ↔ Two (Two A B) C X := by
  constructor
  · rintro ⟨P, _, rfl, hA, Q, R, rfl, hB, hC⟩
    exact ⟨P ++ Q, R, (List.append_assoc _ _ _).symm, ⟨P, Q, rfl, hA, hB⟩, hC⟩
  · rintro ⟨_, R, rfl, ⟨P, Q, rfl, hA, hB⟩, hC⟩
    exact ⟨P, Q ++ R, List.append_assoc _ _ _, hA, Q, R, rfl, hB, hC⟩
theorem RdS.zero {B : List Int} {p q : Nat} {bad bd : Bool} {M : List Int} {S : List Int → Prop} (h : RdS B p bad q bd M S) (T : List Int → Prop) : RdS B p bad q bd (M ++ []) (Two S (Rep T 0)) := h.trans (RdS.refl bd h.le)
theorem RdS.step {B : List Int} {p q q' : Nat} {bad bd bd' : Bool} {M N K : List Int} {S T : List Int → Prop} {n : Nat} (h : RdS B p bad q bd (M ++ N) (Two S (Rep T n))) (k : RdS B q bd q' bd' K T) : RdS B p bad q' bd' (M ++ (N ++ K)) (Two S (Rep T (n + 1))) :=
  (h.trans k).imp (List.append_assoc _ _ _) (fun X => two_assoc X)
/-- the layers so far -/
structure LpY (w wr : World) (r bb wl : Nat) (cf : List Int) (x : WtD) (B : List Int) (p : Nat) (bad : Bool) (M0 : List Int) (S0 : List Int → Prop) (nW a b c : Nat) (kv D : Int) (n : Nat) (ly : Nat → LyD) : Prop where
  st : WsR w wr r bb wl cf { x with ly := ly } B p bad (M0 ++ yB ly n) (Two S0 (Rep (SecS 76 (lenM nW a b c 7 + 7)) n))
  kn : ∀ j, j < n → KpL (ly j) nW a b c kv D 7 ∧ ∀ i, i < 7 → 0 ≤ (ly j).sh i ∧ (ly j).sh i ≤ 255
theorem Lo.same {wx wy : World} {b0 : Nat} {l : LyD} (h : Lo wx b0 l) (k : ∀ {v : Value} {n : Nat} {cs : Nat → Value}, Own wx b0 84 1 v n cs → Own wy b0 84 1 v n cs) : Lo wy b0 l := ⟨k h.n1, k h.n2, fun q hq => k (h.mt q hq)⟩
theorem lpy_next {w wr z x1 : World} {r bb wl gy : Nat} {cf : List Int} {x : WtD} {B : List Int} {p : Nat} {bad : Bool} {M0 : List Int} {S0 : List Int → Prop} {nW a b c : Nat} {kv D : Int} {n : Nat} {ly : Nat → LyD} (hrl : r < w.heap.size) (hbb : bb < w.heap.size) (hgy : x.yO = some ⟨gy, 0, none⟩)
    (h : LpY w wr r bb wl cf x B p bad M0 S0 nW a b c kv D n ly) (f : Below wr.heap.size wr z) {q : Nat} {bd : Bool} (hS : RdS B p bad q bd (M0 ++ yB ly n) (Two S0 (Rep (SecS 76 (lenM nW a b c 7 + 7)) n))) {l : LyD} (hl : LyQ z x1 r bb B q bd nW a b c kv D l) :
    LpY w (x1.setCells gy (n * 30) (lyL l)) r bb wl cf x B p bad M0 S0 nW a b c kv D (n + 1) (updY ly n l) := by
  have hw := (h.st.ws.fresh f).call hrl hl.rdp.chg
  have hz := h.st.ws.size
  have hh := h.st.ws.hl
  have hzs := f.size
  have hlo : Lo x1 (w.heap.size + 2) l := hl.own.weaken (by omega)
  have hY := hw.setY (g := gy) hgy n l hlo
  have oY := hw.oY
  have hgy' : ({ x with ly := ly } : WtD).yO = some ⟨gy, 0, none⟩ := hgy
  rw [hgy'] at oY
  have hb := (oY.lt gy (by simp [Value.ownBlock])).1
  obtain ⟨q', bd', h1, h2⟩ := hl.rdp.ex
  refine ⟨⟨hY, q', bd', ?_, h2.chg (Chg.of_setCells gy (lyL l) (n * 30) x1) (by omega) (by omega)⟩, fun j hj => ?_⟩
  · rw [yB_next]
    exact hS.step h1
  · by_cases e : j = n
    · subst e
      rw [show updY ly j l j = l from if_pos rfl]
      exact ⟨hl.kn, hl.sh⟩
    · rw [show updY ly n l j = ly j from if_neg e]
      exact h.kn j (by omega)
/-- what may be read and written of the list of layers -/
theorem Ws.yrow {w wx : World} {r wl gy : Nat} {cf : List Int} {x : WtD} (h : Ws w wx r wl cf x) (hg : x.yO = some ⟨gy, 0, none⟩) {i : Nat} (hi : i < x.yn) : wx.there gy (i * 30) 30 ∧ wx.cell? ⟨wl, 12, none⟩ = some (.slice (some ⟨gy, 0, none⟩) x.yn x.yc) := by
  have oY := h.oY
  rw [hg] at oY
  obtain ⟨g', e, _, _, hcell, hf⟩ := Own.at_ oY (by omega)
  cases e
  have k12 : wx.cell? ⟨wl, 12, none⟩ = some (.slice x.yO x.yn x.yc) := h.loc.cell (i := 12) (by decide)
  rw [hg] at k12
  exact ⟨fun t ht => ⟨by rw [hcell (i * 30 + t) (by omega)]; rfl, hf _⟩, k12⟩
/-- Medusa's so far -/
structure LpU (w wr : World) (r bb wl : Nat) (cf : List Int) (x : WtD) (B : List Int) (p : Nat) (bad : Bool) (M0 : List Int) (S0 : List Int → Prop) (V W : Int) (P : Nat) (n : Nat) (md : Nat → MtD) : Prop where
  st : WsR w wr r bb wl cf { x with md := md } B p bad (M0 ++ mdB md n) (Two S0 (Rep (SecS 77 P) n))
  kn : ∀ j, j < n → (md j).R = V ∧ (md j).C = W ∧ (md j).n = P ∧ ∀ i, i < P → -128 ≤ (md j).f i ∧ (md j).f i ≤ 127
theorem lpu_next {w wr z x1 : World} {r bb wl gm g : Nat} {cf : List Int} {x : WtD} {B : List Int} {p : Nat} {bad : Bool} {M0 : List Int} {S0 : List Int → Prop} {V W : Int} {P : Nat} {n : Nat} {md : Nat → MtD} (hrl : r < w.heap.size) (hbb : bb < w.heap.size) (hgm : x.mO = some ⟨gm, 0, none⟩)
    (h : LpU w wr r bb wl cf x B p bad M0 S0 V W P n md) (f : Below wr.heap.size wr z) {q : Nat} {bd : Bool} (hS : RdS B p bad q bd (M0 ++ mdB md n) (Two S0 (Rep (SecS 77 P) n))) (hl : TokP z x1 r bb B q bd 77 g P) :
    ∃ md', LpU w (((x1.setCell ⟨gm, n * 3, none⟩ (.int .i64 V)).setCell ⟨gm, n * 3 + 1, none⟩ (.int .i64 W)).setCell ⟨gm, n * 3 + 2, none⟩ (.slice (some ⟨g, 0, none⟩) P P)) r bb wl cf x B p bad M0 S0 V W P (n + 1) md' := by
  obtain ⟨f1, ho, hb1, hp⟩ := hl.ex
  have hw := (h.st.ws.fresh f).call hrl hp.chg
  have hz := h.st.ws.size
  have hh := h.st.ws.hl
  have hzs := f.size
  have hlo : OwM w x1 ⟨V, W, some ⟨g, 0, none⟩, P, P, f1⟩ := Own.weaken ho (by omega)
  have hY := hw.setM (g := gm) hgm n ⟨V, W, some ⟨g, 0, none⟩, P, P, f1⟩ hlo
  have oM := hw.oM
  have hgm' : ({ x with md := md } : WtD).mO = some ⟨gm, 0, none⟩ := hgm
  rw [hgm'] at oM
  have hb := (oM.lt gm (by simp [Value.ownBlock])).1
  obtain ⟨q', bd', h1, h2⟩ := hp.ex
  refine ⟨updM md n ⟨V, W, some ⟨g, 0, none⟩, P, P, f1⟩, ⟨hY, q', bd', ?_, h2.chg (chg3 x1 gm (n * 3) (n * 3 + 1) (n * 3 + 2) _ _ _) (by omega) (by omega)⟩, fun j hj => ?_⟩
  · rw [mdB_next]
    exact hS.step h1
  · by_cases e : j = n
    · subst e
      rw [show updM md j ⟨V, W, some ⟨g, 0, none⟩, P, P, f1⟩ j = ⟨V, W, some ⟨g, 0, none⟩, P, P, f1⟩ from if_pos rfl]
      exact ⟨rfl, rfl, rfl, hb1⟩
    · rw [show updM md n ⟨V, W, some ⟨g, 0, none⟩, P, P, f1⟩ j = md j from if_neg e]
      exact h.kn j (by omega)
theorem Ws.mrow {w wx : World} {r wl gm : Nat} {cf : List Int} {x : WtD} (h : Ws w wx r wl cf x) (hg : x.mO = some ⟨gm, 0, none⟩) {i : Nat} (hi : i < x.mn) : (∀ t, t < 3 → ∃ v, wx.cell? ⟨gm, i * 3 + t, none⟩ = some v) ∧ (∀ j, wx.frozen? ⟨gm, j, none⟩ = false) ∧ wx.cell? ⟨wl, 17, none⟩ = some (.slice (some ⟨gm, 0, none⟩) x.mn x.mc) := by
  have oM := h.oM
  rw [hg] at oM
  obtain ⟨g', e, _, _, hcell, hf⟩ := Own.at_ oM (by omega)
  cases e
  have k12 : wx.cell? ⟨wl, 17, none⟩ = some (.slice x.mO x.mn x.mc) := h.loc.cell (i := 17) (by decide)
  rw [hg] at k12
  exact ⟨fun t ht => ⟨_, hcell (i * 3 + t) (by omega)⟩, hf, k12⟩
end Go.Proofs.Ytilghknalbhacaa
namespace Go.Proofs.Ytilghknalbhacaa
open Go.RowKit
/-! What the reader's weights leaves. -/
/-- all lists of some weights in memory of one's own -/
structure WtO (wx : World) (b0 : Nat) (x : WtD) : Prop where
  oE : Own wx b0 84 1 (.slice x.E.O x.E.n x.E.c) x.E.n (fun i => .int .i8 (x.E.f i))
  oQ : Own wx b0 84 1 (.slice x.Q.O x.Q.n x.Q.c) x.Q.n (fun i => .int .i8 (x.Q.f i))
  oF : Own wx b0 84 1 (.slice x.F.O x.F.n x.F.c) x.F.n (fun i => .int .i8 (x.F.f i))
  oT : Own wx b0 97 2 (.slice x.tO x.tn x.tc) x.tn (tcs x.tC x.tS)
  oY : Own wx b0 67 30 (.slice x.yO x.yn x.yc) x.yn (lyc x.ly)
  oM : Own wx b0 29 3 (.slice x.mO x.mn x.mc) x.mn (mtc x.md)
  dY : ∀ j, j < x.yn → Lo wx b0 (x.ly j)
  dM : ∀ j, j < x.mn → Own wx b0 84 1 (.slice (x.md j).O (x.md j).n (x.md j).c) (x.md j).n (fun i => .int .i8 ((x.md j).f i))
def I8 (f : Nat → Int) (n : Nat) : Prop := ∀ i, i < n → -128 ≤ f i ∧ f i ≤ 127
/-- what is known of weights that were read with these measures -/
structure WtK (V H K L D N M kv : Int) (nW nL nM tn P a b c : Nat) (x : WtD) : Prop where
  cf : x.V = V ∧ x.W = (nW : Int) ∧ x.H = H ∧ x.K = K ∧ x.L = L ∧ x.D = D ∧ x.N = N ∧ x.M = M
  E : x.E.R = V ∧ x.E.C = (nW : Int) ∧ x.E.n = P ∧ I8 x.E.f P
  Q : x.Q.R = V ∧ x.Q.C = (nW : Int) ∧ x.Q.n = P ∧ I8 x.Q.f P
  F : x.F.n = nW ∧ I8 x.F.f nW
  T : x.tn = tn ∧ ∀ i, i < tn → (-32768 ≤ x.tC i ∧ x.tC i ≤ 32767) ∧ (-32768 ≤ x.tS i ∧ x.tS i ≤ 32767)
  yn : x.yn = nL
  mn : x.mn = nM
  y : ∀ j, j < nL → KpL (x.ly j) nW a b c kv D 7 ∧ ∀ i, i < 7 → 0 ≤ (x.ly j).sh i ∧ (x.ly j).sh i ≤ 255
  m : ∀ j, j < nM → (x.md j).R = V ∧ (x.md j).C = (nW : Int) ∧ (x.md j).n = P ∧ I8 (x.md j).f P
def midL (x : WtD) : List Int := ((((secL 69 (nbL x.E.f x.E.n) ++ secL 84 (trL x.tC x.tS x.tn)) ++ yB x.ly x.yn) ++ secL 70 (nbL x.F.f x.F.n)) ++ secL 72 (nbL x.Q.f x.Q.n)) ++ mdB x.md x.mn
def ShM (nW nL nM tn P a b c : Nat) : List Int → Prop := Two (Two (Two (Two (Two (SecS 69 P) (SecS 84 (4 * tn))) (Rep (SecS 76 (lenM nW a b c 7 + 7)) nL)) (SecS 70 nW)) (SecS 72 P)) (Rep (SecS 77 P) nM)
structure WtW (w w' : World) (r bb : Nat) (B : List Int) (p : Nat) (bad : Bool) (V H K L D N M kv : Int) (nW nL nM tn P a b c : Nat) (x : WtD) : Prop where
  own : WtO w' (w.heap.size + 2) x
  kn : WtK V H K L D N M kv nW nL nM tn P a b c x
  rdp : RdP w w' r bb B p bad (midL x) (ShM nW nL nM tn P a b c)
theorem wtw_of {w wr : World} {r bb wl gy gm g1 gF gQ : Nat} {cf : List Int} {B : List Int} {p : Nat} {bad : Bool} {V H K L D N M kv : Int} {nW nL nM tn P a b c : Nat} {f1 fF fQ : Nat → Int} {oT : Option Addr} {cT : Nat} {C S : Nat → Int} {ly : Nat → LyD} {md : Nat → MtD} {xE xT xF xQ : WtD} (T9 : Array Value) (hrl : r < w.heap.size) (hbb : bb < w.heap.size)
    (X0 : xE = { wtS V (nW : Int) H K L D N M gy gm nL nM with E := ⟨V, (nW : Int), some ⟨g1, 0, none⟩, P, P, f1⟩ }) (X1 : xT = { xE with tO := oT, tn := tn, tc := cT, tC := C, tS := S }) (X2 : xF = { xT with ly := ly, F := ⟨some ⟨gF, 0, none⟩, nW, nW, fF⟩ }) (X3 : xQ = { xF with Q := ⟨V, (nW : Int), some ⟨gQ, 0, none⟩, P, P, fQ⟩ })
    (bT : ∀ i, i < tn → (-32768 ≤ C i ∧ C i ≤ 32767) ∧ (-32768 ≤ S i ∧ S i ≤ 32767)) (b1 : I8 f1 P) (bF : I8 fF nW) (bQ : I8 fQ P) (hy : ∀ j, j < nL → KpL (ly j) nW a b c kv D 7 ∧ ∀ i, i < 7 → 0 ≤ (ly j).sh i ∧ (ly j).sh i ≤ 255)
    (h : LpU w wr r bb wl cf xQ B p bad ((((secL 69 (nbL f1 P) ++ secL 84 (trL C S tn)) ++ yB ly nL) ++ secL 70 (nbL fF nW)) ++ secL 72 (nbL fQ P)) (Two (Two (Two (Two (SecS 69 P) (SecS 84 (4 * tn))) (Rep (SecS 76 (lenM nW a b c 7 + 7)) nL)) (SecS 70 nW)) (SecS 72 P)) V (nW : Int) P nM md) :
    WtW w (wr.setRow (w.heap.size + 1) T9) r bb B p bad V H K L D N M kv nW nL nM tn P a b c { xQ with md := md } := by
  have cg := Chg.of_setRow wr (w.heap.size + 1) T9
  have hs := h.st.ws
  have k : ∀ {e : TypeId} {sz n : Nat} {v : Value} {cs : Nat → Value}, Own wr (w.heap.size + 2) e sz v n cs → Own (wr.setRow (w.heap.size + 1) T9) (w.heap.size + 2) e sz v n cs := fun ho => ho.chg cg (fun b e e2 => by have := (ho.lt b e).1; omega)
  obtain ⟨q, bd, hS, hR⟩ := h.st.ex
  subst X0 X1 X2 X3
  exact ⟨⟨k hs.oE, k hs.oQ, k hs.oF, k hs.oT, k hs.oY, k hs.oM, fun j hj => (hs.dY j hj).same k, fun j hj => k (hs.dM j hj)⟩,
    ⟨⟨rfl, rfl, rfl, rfl, rfl, rfl, rfl, rfl⟩, ⟨rfl, rfl, rfl, b1⟩, ⟨rfl, rfl, rfl, bQ⟩, ⟨rfl, bF⟩, ⟨rfl, bT⟩, rfl, rfl, hy, h.kn⟩,
    ⟨q, bd, hS, hR.chg cg (by omega) (by omega)⟩, hs.chg.trans cg (fun b hb e => by omega)⟩
theorem ws_cells {w z : World} {r wl gy nL : Nat} {V H K L D N M : Int} {nW : Nat} {y : WtD} (h : Ws w z r wl [V, (nW : Int), H, K, L, D, N, M] y) (h1 : y.yO = some ⟨gy, 0, none⟩) (h2 : y.yn = nL) (h3 : y.yc = nL) : z.cell? ⟨wl, 12, none⟩ = some (.slice (some ⟨gy, 0, none⟩) nL nL) ∧ z.cell? ⟨w.heap.size, 0, none⟩ = some (.int .i64 V) ∧ z.cell? ⟨w.heap.size, 1, none⟩ = some (.int .i64 (nW : Int)) ∧ z.cell? ⟨w.heap.size, 2, none⟩ = some (.int .i64 H) ∧ z.cell? ⟨w.heap.size, 3, none⟩ = some (.int .i64 K) ∧ z.cell? ⟨w.heap.size, 4, none⟩ = some (.int .i64 L) ∧ z.cell? ⟨w.heap.size, 5, none⟩ = some (.int .i64 D) ∧ z.cell? ⟨w.heap.size, 6, none⟩ = some (.int .i64 N) ∧ z.cell? ⟨w.heap.size, 7, none⟩ = some (.int .i64 M) := by
  have k12 : z.cell? ⟨wl, 12, none⟩ = some (.slice y.yO y.yn y.yc) := h.loc.cell (i := 12) (by decide)
  rw [h1, h2, h3] at k12
  exact ⟨k12, h.box.cell (i := 0) (by decide), h.box.cell (i := 1) (by decide), h.box.cell (i := 2) (by decide), h.box.cell (i := 3) (by decide), h.box.cell (i := 4) (by decide), h.box.cell (i := 5) (by decide), h.box.cell (i := 6) (by decide), h.box.cell (i := 7) (by decide)⟩
theorem ws_cells17 {w z : World} {r wl gm nM : Nat} {V H K L D N M : Int} {nW : Nat} {y : WtD} (h : Ws w z r wl [V, (nW : Int), H, K, L, D, N, M] y) (h1 : y.mO = some ⟨gm, 0, none⟩) (h2 : y.mn = nM) (h3 : y.mc = nM) : z.cell? ⟨wl, 17, none⟩ = some (.slice (some ⟨gm, 0, none⟩) nM nM) ∧ z.cell? ⟨w.heap.size, 0, none⟩ = some (.int .i64 V) ∧ z.cell? ⟨w.heap.size, 1, none⟩ = some (.int .i64 (nW : Int)) ∧ z.cell? ⟨w.heap.size, 2, none⟩ = some (.int .i64 H) ∧ z.cell? ⟨w.heap.size, 3, none⟩ = some (.int .i64 K) ∧ z.cell? ⟨w.heap.size, 4, none⟩ = some (.int .i64 L) ∧ z.cell? ⟨w.heap.size, 5, none⟩ = some (.int .i64 D) ∧ z.cell? ⟨w.heap.size, 6, none⟩ = some (.int .i64 N) ∧ z.cell? ⟨w.heap.size, 7, none⟩ = some (.int .i64 M) := by
  have k12 : z.cell? ⟨wl, 17, none⟩ = some (.slice y.mO y.mn y.mc) := h.loc.cell (i := 17) (by decide)
  rw [h1, h2, h3] at k12
  exact ⟨k12, h.box.cell (i := 0) (by decide), h.box.cell (i := 1) (by decide), h.box.cell (i := 2) (by decide), h.box.cell (i := 3) (by decide), h.box.cell (i := 4) (by decide), h.box.cell (i := 5) (by decide), h.box.cell (i := 6) (by decide), h.box.cell (i := 7) (by decide)⟩
end Go.Proofs.Ytilghknalbhacaa
