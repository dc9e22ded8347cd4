import Derived.Test.YtdceahebkohbjabScRe
namespace Go.Proofs.Ytdceahebkohbjab
open Go.RowKit
/-! The reference's plan: serve, where something is to be filled. -/
theorem nine {j : Nat} (h : j < 9) : j = 0 ∨ j = 1 ∨ j = 2 ∨ j = 3 ∨ j = 4 ∨ j = 5 ∨ j = 6 ∨ j = 7 ∨ j = 8 := by omega
theorem WkA.setO {w : World} {g : Nat} {c : Me} {so : Option Addr} {n sc : Nat} {ov : Value} {gv lf : Int} (h : WkA w g c so n sc ov gv lf) (v : Value) : WkA (w.setCell ⟨g, 6, none⟩ v) g c so n sc v gv lf :=
  (World.rowIs.set h 6 v).congr (fun j hj => by rcases nine hj with rfl | rfl | rfl | rfl | rfl | rfl | rfl | rfl | rfl <;> rfl)
theorem WkA.setG {w : World} {g : Nat} {c : Me} {so : Option Addr} {n sc : Nat} {ov : Value} {gv lf : Int} (h : WkA w g c so n sc ov gv lf) (v : Int) : WkA (w.setCell ⟨g, 7, none⟩ (.int .i64 v)) g c so n sc ov v lf :=
  (World.rowIs.set h 7 _).congr (fun j hj => by rcases nine hj with rfl | rfl | rfl | rfl | rfl | rfl | rfl | rfl | rfl <;> rfl)
theorem WkA.setL {w : World} {g : Nat} {c : Me} {so : Option Addr} {n sc : Nat} {ov : Value} {gv lf : Int} (h : WkA w g c so n sc ov gv lf) (v : Int) : WkA (w.setCell ⟨g, 8, none⟩ (.int .i64 v)) g c so n sc ov gv v :=
  (World.rowIs.set h 8 _).congr (fun j hj => by rcases nine hj with rfl | rfl | rfl | rfl | rfl | rfl | rfl | rfl | rfl <;> rfl)
/-- the cells of a seat in a box -/
def sbC (s : Se) (j : Nat) : Value := if j = 0 then .int .i64 s.id else if j = 1 then .int .i64 s.kn else if j = 2 then .int .i64 s.ca else if j = 3 then .int .i64 s.wa else .slice s.ho s.hn s.hc
theorem sbC_new (w : World) (s : Se) : (w.alloc (.cells #[.int .i64 s.id, .int .i64 s.kn, .int .i64 s.ca, .int .i64 s.wa, .slice s.ho s.hn s.hc] 32)).rowIs w.heap.size 32 5 (sbC s) :=
  World.rowIs_alloc w _ 32 (sbC s) (fun i hi => by
    simp at hi
    have : i = 0 ∨ i = 1 ∨ i = 2 ∨ i = 3 ∨ i = 4 := by omega
    rcases this with rfl | rfl | rfl | rfl | rfl <;> rfl)
theorem size_slice : (Try.prog.info? 45).map (·.size) = some 3 := by kernel_rfl
theorem ret_slice {fn : Func} {p u : Tmp} (h : fn.results = #[.cell p 45, .tmp u]) (tmps : Array Value) (w : World) (g : Nat) (a b c : Int) (v : Value) (hp : tmps.getD p undef = .pointer (some ⟨g, 0, none⟩)) (hr : w.rowIs g 45 3 (tri a b c)) (hv : tmps.getD u undef = v) :
    (results fn tmps).run Try.prog w = .ok (.tuple #[.agg #[.int .i64 a, .int .i64 b, .int .i64 c], v]) w := by
  rw [results_cell_tmp h, hp, hv]
  have hrg : w.rangeAt g 0 [.int .i64 a, .int .i64 b, .int .i64 c] := fun j x hj => by
    match j, hj with
    | 0, hj => simp at hj; subst hj; exact hr.cell (i := 0) (by decide)
    | 1, hj => simp at hj; subst hj; exact hr.cell (i := 1) (by decide)
    | 2, hj => simp at hj; subst hj; exact hr.cell (i := 2) (by decide)
  simp [asAddr, run_loadVar_mid w g 0 45 [.int .i64 a, .int .i64 b, .int .i64 c] _ hrg Try.underlying45 rfl size_slice]
theorem tri_set3 {w : World} {g : Nat} {f : Nat → Value} (h : w.rowIs g 45 3 f) (a b c : Int) : (((w.setCell ⟨g, 0, none⟩ (.int .i64 a)).setCell ⟨g, 1, none⟩ (.int .i64 b)).setCell ⟨g, 2, none⟩ (.int .i64 c)).rowIs g 45 3 (tri a b c) :=
  (((h.set 0 _).set 1 _).set 2 _).congr (fun j hj => by
    have : j = 0 ∨ j = 1 ∨ j = 2 := by omega
    rcases this with rfl | rfl | rfl <;> rfl)
/-- what stands while a seat is served -/
structure SvI (w : World) (g : Nat) (c : Me) (so : Option Addr) (n sc : Nat) (ov : Value) (gv lf : Int) (s : Se) (z : World) : Prop where
  chg : Chg w z (fun x => x = g)
  wk : WkA z g c so n sc ov gv lf
  box : z.rowIs w.heap.size 32 5 (sbC s)
  res : z.rowIs (w.heap.size + 1) 45 3 (tri 0 0 0)
  top : w.heap.size + 2 ≤ z.heap.size
theorem SvI.fresh {w z z' : World} {g : Nat} {c : Me} {so : Option Addr} {n sc : Nat} {ov : Value} {gv lf : Int} {s : Se} (h : SvI w g c so n sc ov gv lf s z) (f : Below z.heap.size z z') : SvI w g c so n sc ov gv lf s z' :=
  ⟨h.chg.post f, h.wk.fresh f, h.box.of_block (f.block _ h.box.lt), h.res.of_block (f.block _ h.res.lt), Nat.le_trans h.top f.size⟩
theorem SvI.set {w z : World} {g i : Nat} {v : Value} {c : Me} {so : Option Addr} {n sc : Nat} {ov ov' : Value} {gv lf gv' lf' : Int} {s : Se} (h : SvI w g c so n sc ov gv lf s z) (hg : g < w.heap.size) (hk : WkA (z.setCell ⟨g, i, none⟩ v) g c so n sc ov' gv' lf') : SvI w g c so n sc ov' gv' lf' s (z.setCell ⟨g, i, none⟩ v) :=
  ⟨h.chg.trans (Chg.of_set z g i v) (fun _ _ t => t), hk, (Chg.of_set z g i v).row h.box (by omega), (Chg.of_set z g i v).row h.res (by omega), Nat.le_trans h.top (Chg.of_set z g i v).size⟩
theorem SvI.cells {w z : World} {g : Nat} {c : Me} {so : Option Addr} {n sc : Nat} {ov : Value} {gv lf : Int} {s : Se} (h : SvI w g c so n sc ov gv lf s z) :
    (z.cell? ⟨w.heap.size, 0, none⟩ = some (.int .i64 s.id) ∧ z.cell? ⟨w.heap.size, 1, none⟩ = some (.int .i64 s.kn) ∧ z.cell? ⟨w.heap.size, 2, none⟩ = some (.int .i64 s.ca) ∧ z.cell? ⟨w.heap.size, 3, none⟩ = some (.int .i64 s.wa) ∧ z.cell? ⟨w.heap.size, 4, none⟩ = some (.slice s.ho s.hn s.hc)) ∧ z.cell? ⟨g, 3, none⟩ = some (.int .i64 c.ch) ∧ z.cell? ⟨g, 4, none⟩ = some (.int .i64 c.tr) ∧ z.cell? ⟨g, 6, none⟩ = some ov ∧ z.cell? ⟨g, 7, none⟩ = some (.int .i64 gv) ∧ z.cell? ⟨g, 8, none⟩ = some (.int .i64 lf) :=
  ⟨⟨h.box.cell (i := 0) (by decide), h.box.cell (i := 1) (by decide), h.box.cell (i := 2) (by decide), h.box.cell (i := 3) (by decide), h.box.cell (i := 4) (by decide)⟩, World.rowIs.cell h.wk (i := 3) (by decide), World.rowIs.cell h.wk (i := 4) (by decide), World.rowIs.cell h.wk (i := 6) (by decide), World.rowIs.cell h.wk (i := 7) (by decide), World.rowIs.cell h.wk (i := 8) (by decide)⟩
/-- what serve leaves: v the list that was -/
def SvP (w : World) (g : Nat) (c : Me) (so : Option Addr) (n sc : Nat) (S : Nat → Se) (v : Value) (Q0 : List Int) (gv lf : Int) (s : Se) (x am p1 p2 : Int) (e : Ending) (w' : World) : Prop :=
  Chg w w' (fun x => x = g) ∧ ∃ R, MdR c S n gv s x Q0 R ∧ ((R = none ∧ WkA w' g c so n sc v gv lf ∧ e = .returned (.tuple #[.agg #[.int .i64 0, .int .i64 0, .int .i64 0], .bool false])) ∨ ∃ (Q : List Int) (a : Option Addr) (k : Nat), R = some Q ∧ Q.length ≤ Q0.length + n ∧ WkA w' g c so n sc (.slice a Q.length k) (gv + bey c s am) (lf - am) ∧ Own w' w.heap.size 3 1 (.slice a Q.length k) Q.length (fun i => .int .i64 (lI Q i)) ∧ e = .returned (.tuple #[.agg #[.int .i64 s.id, .int .i64 p1, .int .i64 p2], .bool true]))
theorem set3_chg (z : World) (k : Nat) (a b c : Value) : Chg z (((z.setCell ⟨k, 0, none⟩ a).setCell ⟨k, 1, none⟩ b).setCell ⟨k, 2, none⟩ c) (fun x => x = k) := ((Chg.of_set z k 0 a).trans (Chg.of_set _ k 1 b) (fun _ _ t => t)).trans (Chg.of_set _ k 2 c) (fun _ _ t => t)
theorem SvI.out {w z : World} {g : Nat} {c : Me} {so : Option Addr} {n sc : Nat} {ov : Value} {gv lf : Int} {s : Se} (h : SvI w g c so n sc ov gv lf s z) (hg : g < w.heap.size) (x y t : Value) : Chg w (((z.setCell ⟨w.heap.size + 1, 0, none⟩ x).setCell ⟨w.heap.size + 1, 1, none⟩ y).setCell ⟨w.heap.size + 1, 2, none⟩ t) (fun x => x = g) ∧ WkA (((z.setCell ⟨w.heap.size + 1, 0, none⟩ x).setCell ⟨w.heap.size + 1, 1, none⟩ y).setCell ⟨w.heap.size + 1, 2, none⟩ t) g c so n sc ov gv lf :=
  ⟨h.chg.trans (set3_chg z (w.heap.size + 1) x y t) (fun x hx e => by omega), (set3_chg z (w.heap.size + 1) x y t).row h.wk (by omega)⟩
/-- what made leaves, its answer's form first -/
def MdP (w : World) (c : Me) (S : Nat → Se) (n : Nat) (gv : Int) (s : Se) (x : Int) (Q0 : List Int) (w' : World) (a : Option Addr) (m k : Nat) (b : Bool) : Prop :=
  Below w.heap.size w w' ∧ ((b = false ∧ MdR c S n gv s x Q0 none) ∨ (b = true ∧ ∃ Q, m = Q.length ∧ MdR c S n gv s x Q0 (some Q) ∧ Q.length ≤ Q0.length + n ∧ Own w' w.heap.size 3 1 (.slice a m k) m (fun i => .int .i64 (lI Q i))))
theorem made_form {P : Program} {f : FuncId} {args : Array Value} {w : World} {c : Me} {S : Nat → Se} {n : Nat} {gv : Int} {s : Se} {x : Int} {Q0 : List Int} (h : Calls P f args w fun e w' => Below w.heap.size w w' ∧ ∃ R, MdR c S n gv s x Q0 R ∧ ((R = none ∧ e = .returned (.tuple #[.slice none 0 0, .bool false])) ∨ ∃ Q a k, R = some Q ∧ Q.length ≤ Q0.length + n ∧ e = .returned (.tuple #[.slice a Q.length k, .bool true]) ∧ Own w' w.heap.size 3 1 (.slice a Q.length k) Q.length (fun i => .int .i64 (lI Q i)))) :
    Calls P f args w fun e w' => ∃ a m k b, e = .returned (.tuple #[.slice a m k, .bool b]) ∧ Hid (MdP w c S n gv s x Q0 w' a m k b) :=
  h.mono fun e w' ⟨hb, R, hR, hh⟩ => by
    rcases hh with ⟨rfl, he⟩ | ⟨Q, a, k, rfl, hl, he, ho⟩
    · exact ⟨none, 0, 0, false, he, hb, .inl ⟨rfl, hR⟩⟩
    · exact ⟨a, Q.length, k, true, he, hb, .inr ⟨rfl, Q, rfl, hR, hl, ho⟩⟩
set_option maxRecDepth 20000 in
set_option maxHeartbeats 8000000 in
theorem serveA {w : World} {g : Nat} {c : Me} {so : Option Addr} {n sc : Nat} {oo : Option Addr} {oc : Nat} {Q0 : List Int} {gv lf : Int} {S : Nat → Se} (hw : WkA w g c so n sc (.slice oo Q0.length oc) gv lf) (hS : ∀ z, Chg w z (fun x => x = g) → SeA z so n sc S) (hn : n ≤ 16) (hc : okM c 1) (hg : 0 ≤ gv) (hg2 : gv ≤ 90000) (hl : 0 < lf) (hl2 : lf ≤ 1024) (hQ : RdA w oo 1 Q0.length oc (fun i => .int .i64 (lI Q0 i))) (hQn : Q0.length ≤ 1000) (s : Se) (hs : okS c s) (h7 : s.hn ≤ 256) (hr : 0 < rst s) {am : Int} (ham : am = min (min (rst s) c.ch) lf) :
    Calls Try.prog 31 #[.pointer (some ⟨g, 0, none⟩), seV s] w (SvP w g c so n sc S (.slice oo Q0.length oc) Q0 gv lf s am am am 0) := by
  have hgl : g < w.heap.size := World.rowIs.lt hw
  obtain ⟨_, _, c1, c2, c3, c4, _, c5, c6, c7, _⟩ := hc
  obtain ⟨s1, s2, s3, s4, _⟩ := hs
  unfold rst at hr ham
  have a1 : 1 ≤ am := by omega
  have a2 : am ≤ 64 := by omega
  have HMD := hidd (fun (z : World) (hz : Chg w z (fun x => x = g)) (hk : WkA z g c so n sc (.slice oo Q0.length oc) gv lf) (hq : RdA z oo 1 Q0.length oc (fun i => .int .i64 (lI Q0 i))) => rmade_any hk (hS z hz) hn c1 c2 (by omega) (by omega) hq hQn c3 c4 s (x := am) (by omega) (by omega) (by omega) (by omega) h7)
  have HBY := hidd (fun (z : World) (v : Value) (hk : WkA z g c so n sc v gv lf) => rbeyond_any hk c3 c4 s (x := am) (by omega) (by omega) (by omega) (by omega) h7)
  have hby : 0 ≤ bey c s am ∧ bey c s am ≤ 1000 := by
    unfold bey need
    have h0 : 0 < c.bl := by omega
    have e1 : 0 ≤ (s.ca + am + c.bl - 1) / c.bl := Int.ediv_nonneg (by omega) (by omega)
    have e2 : (s.ca + am + c.bl - 1) / c.bl ≤ s.ca + am + c.bl - 1 := Int.ediv_le_self _ (by omega)
    omega
  obtain ⟨gn, HGN⟩ : ∃ x, Hid (x = gv + bey c s am) := ⟨_, rfl⟩
  obtain ⟨by0, HBE⟩ : ∃ x, Hid (x = bey c s am) := ⟨_, rfl⟩
  have hgn : gn = gv + by0 := by rw [HGN.out, HBE.out]
  rw [← HBE.out] at hby HBY
  have HP : Hid (∀ e w', (Chg w w' (fun x => x = g) ∧ ∃ R, MdR c S n gv s am Q0 R ∧ ((R = none ∧ WkA w' g c so n sc (.slice oo Q0.length oc) gv lf ∧ e = .returned (.tuple #[.agg #[.int .i64 0, .int .i64 0, .int .i64 0], .bool false])) ∨ ∃ (Q : List Int) (a : Option Addr) (k : Nat), R = some Q ∧ Q.length ≤ Q0.length + n ∧ WkA w' g c so n sc (.slice a Q.length k) gn (lf - am) ∧ Own w' w.heap.size 3 1 (.slice a Q.length k) Q.length (fun i => .int .i64 (lI Q i)) ∧ e = .returned (.tuple #[.agg #[.int .i64 s.id, .int .i64 am, .int .i64 0], .bool true]))) → SvP w g c so n sc S (.slice oo Q0.length oc) Q0 gv lf s am am am 0 e w') := fun e w' h => by rw [HGN.out] at h; exact h
  have HI0 : Hid (SvI w g c so n sc (.slice oo Q0.length oc) gv lf s ((w.alloc (.cells #[.int .i64 s.id, .int .i64 s.kn, .int .i64 s.ca, .int .i64 s.wa, .slice s.ho s.hn s.hc] 32)).alloc (.cells #[.int .i64 0, .int .i64 0, .int .i64 0] 45))) := by
    have f1 := fresh_alloc w (.cells #[.int .i64 s.id, .int .i64 s.kn, .int .i64 s.ca, .int .i64 s.wa, .slice s.ho s.hn s.hc] 32)
    have r1 := sbC_new w s
    have e1 : (w.alloc (.cells #[.int .i64 s.id, .int .i64 s.kn, .int .i64 s.ca, .int .i64 s.wa, .slice s.ho s.hn s.hc] 32)).heap.size = w.heap.size + 1 := by simp
    generalize w.alloc (.cells #[.int .i64 s.id, .int .i64 s.kn, .int .i64 s.ca, .int .i64 s.wa, .slice s.ho s.hn s.hc] 32) = w1 at *
    have f2 := fresh_alloc w1 (.cells #[.int .i64 0, .int .i64 0, .int .i64 0] 45)
    have r2 := tri_new w1 0 0 0
    rw [e1] at r2
    have f3 := f1.trans (f2.mono f1.size)
    exact ⟨Chg.of_below _ f3, hw.fresh f3, r1.of_block (f2.block _ r1.lt), r2, by simp; omega⟩
  have HQ2 : Hid (RdA ((w.alloc (.cells #[.int .i64 s.id, .int .i64 s.kn, .int .i64 s.ca, .int .i64 s.wa, .slice s.ho s.hn s.hc] 32)).alloc (.cells #[.int .i64 0, .int .i64 0, .int .i64 0] 45)) oo 1 Q0.length oc (fun i => .int .i64 (lI Q0 i))) := (hQ.fresh (fresh_alloc _ _)).fresh (fresh_alloc _ _)
  clear hw hS hQ
  have HSE : Hid (seV s = .agg #[.int .i64 s.id, .int .i64 s.kn, .int .i64 s.ca, .int .i64 s.wa, .slice s.ho s.hn s.hc]) := rfl
  rw [HSE.out] at HMD HBY ⊢
  obtain ⟨PP, HPP⟩ : ∃ P, Hid (P = SvP w g c so n sc S (.slice oo Q0.length oc) Q0 gv lf s am am am 0) := ⟨_, rfl⟩
  rw [← HPP.out]
  rw [← HPP.out] at HP
  go_enter Try.func31, Try.ntmps31
  go_upto_region 1 with fail
  generalize (w.alloc (.cells #[.int .i64 s.id, .int .i64 s.kn, .int .i64 s.ca, .int .i64 s.wa, .slice s.ho s.hn s.hc] 32)).alloc (.cells #[.int .i64 0, .int .i64 0, .int .i64 0] 45) = w2 at *
  obtain ⟨⟨t0, t1, t2, t3, t4⟩, g3, g4, g6, g7, g8⟩ := HI0.out.cells
  go_upto_region 3 with fail
  have l3 := later_cell g3
  have l8 := later_cell g8
  have ne := later_some w2
  have HLS := hidd (fun z : Later w2 => rleast_any z.val (s.kn - 1 - s.ca) c.ch lf)
  rw [← ham] at HLS
  have HAMM := hidd ham
  clear ham
  refine wp_region_later (by kernel_rfl) (by kernel_rfl) ?_
  repeat (go_big_quiet_step (fail))
  go_big_quiet_step (exact later_same (HLS.out _))
  repeat (go_big_quiet_step (fail))
  refine wpQuiet_nil ?_
  rintro _ ⟨z, rfl⟩
  have HI3 := hidd (HI0.out.fresh z.fresh)
  have HQ3 := hidd (HQ2.out.fresh z.fresh)
  clear l3 l8 ne HLS t0 t1 t2 t3 t4 g3 g4 g6 g7 g8
  generalize z.val = w3 at *
  obtain ⟨⟨t0, t1, t2, t3, t4⟩, _, _, _, _, _⟩ := HI3.out.cells
  have HM3 := hidd (made_form (HMD.out w3 HI3.out.chg HI3.out.wk HQ3.out))
  clear HI0 HQ2 HQ3 HMD
  go_upto_region 5 with (go_at_call 46; with_reducible refine HM3.out.mono ?_; rintro e w4 ⟨a, m, k, b, rfl, HMP⟩)
  have HI4 := hidd (HI3.out.fresh HMP.out.1)
  have HSZ := hidd HI3.out.top
  clear t0 t1 t2 t3 t4 HI3 HM3
  rcases HMP.out.2 with ⟨rfl, hR⟩ | ⟨rfl, Q, rfl, hR, hlen, how⟩
  · have HR := hidd hR
    obtain ⟨r0, r1, r2⟩ := (⟨HI4.out.res.cell (i := 0) (by decide), HI4.out.res.cell (i := 1) (by decide), HI4.out.res.cell (i := 2) (by decide)⟩ : _ ∧ _ ∧ _)
    have fr := HI4.out.res.frozen
    clear hR HMP
    go_wp2
    (try simp only [Exit.inBlock, Exit.then]); refine bodyPost_ret (ret_slice rfl _ _ (w.heap.size + 1) _ _ _ _ rfl (tri_set3 HI4.out.res _ _ _) rfl) rfl ?_
    obtain ⟨d1, d2⟩ := HI4.out.out hgl (.int .i64 0) (.int .i64 0) (.int .i64 0)
    exact HP.out _ _ ⟨d1, none, HR.out, .inl ⟨rfl, d2, rfl⟩⟩
  · have HR := hidd hR
    have HOW := hidd how
    have g6 := HI4.out.cells.2.2.2.1
    have fr := World.rowIs.frozen HI4.out.wk
    clear hR HMP how
    go_upto_region 8 with fail
    have HI5 := hidd (HI4.out.set hgl (HI4.out.wk.setO (.slice a Q.length k)))
    have HO5 := hidd (HOW.out.chg (Chg.of_set w4 g 6 (.slice a Q.length k)) (fun x hx e => HOW.out.apart HI4.out.wk (by decide) (by rw [hx, e])))
    clear g6 fr HI4 HOW
    generalize w4.setCell ⟨g, 6, none⟩ (.slice a Q.length k) = w5 at *
    obtain ⟨⟨t0, t1, t2, t3, t4⟩, _, _, _, g7, _⟩ := HI5.out.cells
    have l0 := later_cell t0
    have l1 := later_cell t1
    have l2 := later_cell t2
    have l3 := later_cell t3
    have l4 := later_cell t4
    have l7 := later_cell g7
    have ne := later_some w5
    have HB5 := hidd (fun z : Later w5 => HBY.out z.val _ (HI5.out.wk.fresh z.fresh))
    have wr3 : IntKind.i64.wrap (gv + by0) = gn := by rw [IntKind.wrap_i64]; omega
    have HGG := hidd hgn
    clear hgn
    refine wp_region_lastL (C := fun w' => ∃ x : Later w5, w' = x.val) (by simp) (by kernel_rfl) (by kernel_rfl) (by kernel_rfl) ⟨⟨w5.drew, (Below.refl _ _).drew⟩, rfl⟩ ?_
    simp only [List.dropLast_cons_cons, List.dropLast_singleton, List.getLast_cons_cons, List.getLast_singleton]
    repeat (go_big_quiet_step (fail))
    go_big_quiet_step (exact later_of (HB5.out _))
    repeat (go_big_quiet_step (fail))
    refine wpQuiet_nil ?_
    rintro _ ⟨z, rfl⟩
    have HI6 := hidd (HI5.out.fresh z.fresh)
    have HO6 := hidd (HO5.out.kept z.fresh)
    clear l0 l1 l2 l3 l4 l7 ne HB5 t0 t1 t2 t3 t4 g7 HI5 HO5
    generalize z.val = w6 at *
    have g7 := HI6.out.cells.2.2.2.2.1
    have fr := World.rowIs.frozen HI6.out.wk
    go_upto_region 9 with fail
    have HI7 := hidd (HI6.out.set hgl (HI6.out.wk.setG gn))
    have HO7 := hidd (HO6.out.chg (Chg.of_set w6 g 7 (.int .i64 gn)) (fun x hx e => HO6.out.apart HI6.out.wk (by decide) (by rw [hx, e])))
    clear g7 fr HI6 HO6 wr3
    generalize w6.setCell ⟨g, 7, none⟩ (.int .i64 gn) = w7 at *
    have g8 := HI7.out.cells.2.2.2.2.2
    have fr := World.rowIs.frozen HI7.out.wk
    go_upto_region 10 with fail
    have HI8 := hidd (HI7.out.set hgl (HI7.out.wk.setL (lf - am)))
    have HO8 := hidd (HO7.out.chg (Chg.of_set w7 g 8 (.int .i64 (lf - am))) (fun x hx e => HO7.out.apart HI7.out.wk (by decide) (by rw [hx, e])))
    clear g8 fr HI7 HO7
    generalize w7.setCell ⟨g, 8, none⟩ (.int .i64 (lf - am)) = w8 at *
    obtain ⟨r0, r1, r2⟩ := (⟨HI8.out.res.cell (i := 0) (by decide), HI8.out.res.cell (i := 1) (by decide), HI8.out.res.cell (i := 2) (by decide)⟩ : _ ∧ _ ∧ _)
    have t0 := HI8.out.cells.1.1
    have fr := HI8.out.res.frozen
    go_wp2
    (try simp only [Exit.inBlock, Exit.then]); refine bodyPost_ret (ret_slice rfl _ _ (w.heap.size + 1) _ _ _ _ rfl (tri_set3 HI8.out.res _ _ _) rfl) rfl ?_
    obtain ⟨d1, d2⟩ := HI8.out.out hgl (.int .i64 s.id) (.int .i64 am) (.int .i64 0)
    refine HP.out _ _ ⟨d1, some Q, HR.out, .inr ⟨Q, a, k, rfl, hlen, d2, ?_, rfl⟩⟩
    exact (HO8.out.chg (set3_chg w8 (w.heap.size + 1) _ _ _) (fun x hx e => by have := (HO8.out.lt x hx).1; have := HSZ.out; omega)).weaken (by have := HSZ.out; omega)
end Go.Proofs.Ytdceahebkohbjab
