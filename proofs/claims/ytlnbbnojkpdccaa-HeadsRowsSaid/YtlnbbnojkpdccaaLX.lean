import Derived.Test.YtlnbbnojkpdccaaLG
namespace Go.Proofs.Ytlnbbnojkpdccaa
open Go.RowKit
/-! Head's numbers written over: what stays. -/
theorem row_prods {R C n k : Nat} (hn : n = R * C) (hk : k < R) : ∃ lo : Nat, lo = k * C ∧ lo + C ≤ n ∧ (k : Int) * (C : Int) = (lo : Int) ∧ ((k : Int) + 1) * (C : Int) = (lo : Int) + (C : Int) := by
  have h1 : k * C + C ≤ R * C := by
    have := Nat.mul_le_mul_right C (show k + 1 ≤ R by omega)
    rw [Nat.add_mul, Nat.one_mul] at this; exact this
  exact ⟨k * C, rfl, by omega, (Int.natCast_mul _ _).symm, by rw [Int.add_mul, Int.one_mul, ← Int.natCast_mul]⟩
/-- all blocks but one are as they were -/
def But (g : Nat) (w w' : World) : Prop := ∀ z, z ≠ g → w'.heap[z]? = w.heap[z]?
theorem But.cell {g : Nat} {w w' : World} (h : But g w w') {b o : Nat} (hb : b ≠ g) : w'.cell? ⟨b, o, none⟩ = w.cell? ⟨b, o, none⟩ := World.cell?_of_block (h b hb)
theorem RdA.but {w w' : World} {ao : Option Addr} {sz n cap : Nat} {cs : Nat → Value} (h : RdA w ao sz n cap cs) {g : Nat} (k : But g w w') (hb : ∀ b off, ao = some ⟨b, off, none⟩ → b ≠ g) : RdA w' ao sz n cap cs :=
  ⟨h.le, h.top, fun h0 => by
    obtain ⟨b, off, e, hc⟩ := h.at_ h0
    exact ⟨b, off, e, fun j hj => by rw [k.cell (hb b off e)]; exact hc j hj⟩⟩
theorem off_ne {g n c m c' : Nat} {O : Option Addr} (h : Off (.slice (some ⟨g, 0, none⟩) n c) (.slice O m c')) : ∀ b off, O = some ⟨b, off, none⟩ → b ≠ g := fun b off e q => by
  subst e q
  exact h b rfl rfl
theorem offT_ne {w : World} {b1 b2 s1 s2 n1 n2 g c c' : Nat} {e1 e2 : TypeId} {O : Option Addr} {c1 c2 : Nat → Value} (h : Own w b1 e1 s1 (.slice (some ⟨g, 0, none⟩) n1 c) n1 c1) (k : Own w b2 e2 s2 (.slice O n2 c') n2 c2) (hne : e1 ≠ e2) : ∀ b off, O = some ⟨b, off, none⟩ → b ≠ g := off_ne (h.offT k hne)
theorem mt_but {w w' : World} {m : MtD} (h : MtR w m) {g : Nat} (k : But g w w') (hb : ∀ b off, m.O = some ⟨b, off, none⟩ → b ≠ g) : MtR w' m := ⟨h.rd.but k hb, h.bd⟩
theorem ls_but {w w' : World} {m : LsD} (h : LsR w m) {g : Nat} (k : But g w w') (hb : ∀ b off, m.O = some ⟨b, off, none⟩ → b ≠ g) : LsR w' m := ⟨h.rd.but k hb, h.bd⟩
theorem Cpv.fresh {w w1 w2 : World} {x y : WtD} (h : Cpv w w1 x y) (f : Below w1.heap.size w1 w2) : Cpv w w2 x y :=
  ⟨h.bs, Own.kept h.E f, Own.kept h.Q f, Own.kept h.F f, h.T.kept f, h.Y.kept f, h.M.kept f, fun j hj => ⟨(h.yy j hj).1.fresh f, (h.yy j hj).2⟩, fun j hj => ⟨Own.kept (h.mm j hj).1 f, (h.mm j hj).2⟩⟩
/-- a copy whose Head's numbers were written over -/
theorem Cpv.but {w w1 w2 w0 : World} {x y : WtD} (h : Cpv w w1 x y) (k : WtR w0 x) (hn : NoQ x y x.mn) {g : Nat} (hg : y.Q.O = some ⟨g, 0, none⟩) (hb : But g w1 w2) (m : MtD) (hm : MtR w2 m) : WtR w2 { y with Q := m } := by
  have r := h.wtr k
  have hQ : Own w1 (w.heap.size + 2) 57 1 (.slice (some ⟨g, 0, none⟩) y.Q.n y.Q.c) y.Q.n (fun i => .int .i8 (y.Q.f i)) := by rw [← hg]; exact h.Q
  have e : Value.slice y.Q.O y.Q.n y.Q.c = .slice (some ⟨g, 0, none⟩) y.Q.n y.Q.c := by rw [hg]
  have nE := hn.E; have nF := hn.F; have n1 := hn.n1; have n2 := hn.n2; have ms := hn.ms; have md := hn.md
  rw [e] at nE nF n1 n2 ms md
  refine ⟨mt_but r.E hb (off_ne nE), r.T.but hb (offT_ne hQ h.T (by decide)), ls_but r.F hb (off_ne nF), hm, r.yle, r.ytop, fun h0 => ?_, fun j hj => ?_, r.mle, r.mtop, fun h0 => ?_, fun j hj => ?_⟩
  · obtain ⟨b, off, eb, hc⟩ := r.yat h0
    have hbg := offT_ne hQ h.Y (by decide) b off eb
    refine ⟨b, off, eb, fun j hj => ?_⟩
    have hr := (hc j hj).range
    refine lyC_of (fun t ht => ?_)
    rw [hb.cell hbg]
    exact hr t _ (by
      have hl : (lyL (y.ly j)).length = 30 := rfl
      rw [List.getD_eq_getElem?_getD, List.getElem?_eq_getElem (by rw [hl]; exact ht)]
      rfl)
  · have hj' : j < x.yn := by
      have := h.bs.Y
      have hj2 : j < y.yn := hj
      omega
    have q := r.yr j hj
    exact ⟨ls_but q.n1 hb (off_ne (n1 j hj')), ls_but q.n2 hb (off_ne (n2 j hj')), mt_but q.q hb (off_ne (ms j hj' 0 (by decide))), mt_but q.k hb (off_ne (ms j hj' 1 (by decide))), mt_but q.v hb (off_ne (ms j hj' 2 (by decide))), mt_but q.o hb (off_ne (ms j hj' 3 (by decide))), mt_but q.g hb (off_ne (ms j hj' 4 (by decide))), mt_but q.u hb (off_ne (ms j hj' 5 (by decide))), mt_but q.d hb (off_ne (ms j hj' 6 (by decide)))⟩
  · obtain ⟨b, off, eb, hc⟩ := r.mat h0
    have hbg := offT_ne hQ h.M (by decide) b off eb
    refine ⟨b, off, eb, fun j hj => ?_⟩
    obtain ⟨d0, d1, d2⟩ := hc j hj
    exact ⟨by rw [hb.cell hbg]; exact d0, by rw [hb.cell hbg]; exact d1, by rw [hb.cell hbg]; exact d2⟩
  · have hj' : j < x.mn := by
      have := h.bs.M
      have hj2 : j < y.mn := hj
      omega
    exact mt_but (r.mr j hj) hb (off_ne (md j hj'))
theorem dot_zeros (f : Nat → Int) (n : Nat) : dot f (fun _ => 0) n = 0 := by
  unfold dot
  have : isum (fun i => f i * (fun _ => (0 : Int)) i) n = 0 := by
    rw [isum_congr (g := fun _ => 0) (fun i _ => Int.mul_zero _), isum_zero]
  rw [this]
  unfold wrap64
  omega
noncomputable def loopR1 : Code := (loopsOf (Try.f6.body.getD .skip)).headD .skip
noncomputable def loopR2 : Code := ((loopsOf (Try.f6.body.getD .skip)).drop 1).headD .skip
noncomputable def loopR3 : Code := ((loopsOf (Try.f6.body.getD .skip)).drop 2).headD .skip
def LR1 (B : Nat) (row : Int) (oo : Option Addr) (no oc : Nat) (hu : Option Addr) (C hc bl bz R t : Nat) (a : Act) : Prop := ∃ u : Nat → Value, u 2 = .int .i64 row ∧ u 3 = .slice oo no oc ∧ u 4 = .pointer (some ⟨B, 0, none⟩) ∧ u 13 = .slice hu C hc ∧ u 14 = .slice (some ⟨bl, 0, none⟩) R R ∧ u 16 = .slice (some ⟨bz, 0, none⟩) R R ∧ u 18 = .int .i64 (C : Int) ∧ u 19 = .int .i64 (t : Int) ∧ a = { tmps := #[u 0, u 1, u 2, u 3, u 4, u 5, u 6, u 7, u 8, u 9, u 10, u 11, u 12, u 13, u 14, u 15, u 16, u 17, u 18, u 19, u 20, u 21, u 22, u 23, u 24, u 25, u 26, u 27, u 28, u 29, u 30, u 31, u 32, u 33, u 34, u 35, u 36, u 37, u 38, u 39, u 40, u 41, u 42, u 43, u 44, u 45, u 46, u 47, u 48, u 49, u 50, u 51, u 52, u 53, u 54, u 55, u 56, u 57, u 58, u 59, u 60, u 61, u 62, u 63, u 64, u 65, u 66, u 67, u 68, u 69, u 70, u 71, u 72, u 73, u 74, u 75, u 76, u 77, u 78, u 79, u 80, u 81, u 82, u 83, u 84, u 85, u 86, u 87, u 88, u 89, u 90, u 91, u 92, u 93, u 94, u 95, u 96, u 97, u 98, u 99, u 100, u 101, u 102, u 103, u 104, u 105, u 106, u 107, u 108, u 109, u 110, u 111, u 112, u 113, u 114, u 115, u 116, u 117, u 118, u 119, u 120, u 121, u 122, u 123, u 124, u 125, u 126, u 127, u 128, u 129, u 130, u 131, u 132, u 133, u 134, u 135, u 136, u 137, u 138, u 139, u 140, u 141, u 142, u 143, u 144, u 145, u 146, u 147, u 148, u 149, u 150, u 151, u 152, u 153, u 154, u 155, u 156, u 157, u 158, u 159, u 160, u 161, u 162, u 163, u 164, u 165, u 166, u 167, u 168, u 169, u 170, u 171, u 172, u 173, u 174, u 175, u 176, u 177, u 178, u 179, u 180, u 181, u 182, u 183, u 184, u 185, u 186, u 187, u 188, u 189, u 190, u 191, u 192, u 193, u 194, u 195, u 196, u 197, u 198, u 199, u 200, u 201, u 202, u 203, u 204, u 205, u 206, u 207, u 208, u 209], defers := [] }
set_option maxRecDepth 10000 in
theorem LR1.of {B : Nat} {row : Int} {oo : Option Addr} {no oc : Nat} {hu : Option Addr} {C hc bl bz R t : Nat} {tt : Array Value} (h : tt.size = 210) (h2 : tt.getD 2 undef = .int .i64 row) (h3 : tt.getD 3 undef = .slice oo no oc) (h4 : tt.getD 4 undef = .pointer (some ⟨B, 0, none⟩)) (h13 : tt.getD 13 undef = .slice hu C hc) (h14 : tt.getD 14 undef = .slice (some ⟨bl, 0, none⟩) R R) (h16 : tt.getD 16 undef = .slice (some ⟨bz, 0, none⟩) R R) (h18 : tt.getD 18 undef = .int .i64 (C : Int)) (h19 : tt.getD 19 undef = .int .i64 (t : Int)) : LR1 B row oo no oc hu C hc bl bz R t { tmps := tt, defers := [] } :=
  ⟨fun i => tt.getD i undef, h2, h3, h4, h13, h14, h16, h18, h19, congrArg (fun x => Act.mk x []) (arr_lit tt 210 h)⟩
def LR2 (vb : Nat) (oo : Option Addr) (no oc : Nat) (hu : Option Addr) (C hc bl R k i : Nat) (a : Act) : Prop := ∃ u : Nat → Value, u 3 = .slice oo no oc ∧ u 13 = .slice hu C hc ∧ u 14 = .slice (some ⟨bl, 0, none⟩) R R ∧ u 18 = .int .i64 (C : Int) ∧ u 22 = .int .i64 (k : Int) ∧ u 23 = .pointer (some ⟨vb, 0, none⟩) ∧ u 24 = .int .i64 (i : Int) ∧ a = { tmps := #[u 0, u 1, u 2, u 3, u 4, u 5, u 6, u 7, u 8, u 9, u 10, u 11, u 12, u 13, u 14, u 15, u 16, u 17, u 18, u 19, u 20, u 21, u 22, u 23, u 24, u 25, u 26, u 27, u 28, u 29, u 30, u 31, u 32, u 33, u 34, u 35, u 36, u 37, u 38, u 39, u 40, u 41, u 42, u 43, u 44, u 45, u 46, u 47, u 48, u 49, u 50, u 51, u 52, u 53, u 54, u 55, u 56, u 57, u 58, u 59, u 60, u 61, u 62, u 63, u 64, u 65, u 66, u 67, u 68, u 69, u 70, u 71, u 72, u 73, u 74, u 75, u 76, u 77, u 78, u 79, u 80, u 81, u 82, u 83, u 84, u 85, u 86, u 87, u 88, u 89, u 90, u 91, u 92, u 93, u 94, u 95, u 96, u 97, u 98, u 99, u 100, u 101, u 102, u 103, u 104, u 105, u 106, u 107, u 108, u 109, u 110, u 111, u 112, u 113, u 114, u 115, u 116, u 117, u 118, u 119, u 120, u 121, u 122, u 123, u 124, u 125, u 126, u 127, u 128, u 129, u 130, u 131, u 132, u 133, u 134, u 135, u 136, u 137, u 138, u 139, u 140, u 141, u 142, u 143, u 144, u 145, u 146, u 147, u 148, u 149, u 150, u 151, u 152, u 153, u 154, u 155, u 156, u 157, u 158, u 159, u 160, u 161, u 162, u 163, u 164, u 165, u 166, u 167, u 168, u 169, u 170, u 171, u 172, u 173, u 174, u 175, u 176, u 177, u 178, u 179, u 180, u 181, u 182, u 183, u 184, u 185, u 186, u 187, u 188, u 189, u 190, u 191, u 192, u 193, u 194, u 195, u 196, u 197, u 198, u 199, u 200, u 201, u 202, u 203, u 204, u 205, u 206, u 207, u 208, u 209], defers := [] }
set_option maxRecDepth 10000 in
theorem LR2.of {vb : Nat} {oo : Option Addr} {no oc : Nat} {hu : Option Addr} {C hc bl R k i : Nat} {tt : Array Value} (h : tt.size = 210) (h3 : tt.getD 3 undef = .slice oo no oc) (h13 : tt.getD 13 undef = .slice hu C hc) (h14 : tt.getD 14 undef = .slice (some ⟨bl, 0, none⟩) R R) (h18 : tt.getD 18 undef = .int .i64 (C : Int)) (h22 : tt.getD 22 undef = .int .i64 (k : Int)) (h23 : tt.getD 23 undef = .pointer (some ⟨vb, 0, none⟩)) (h24 : tt.getD 24 undef = .int .i64 (i : Int)) : LR2 vb oo no oc hu C hc bl R k i { tmps := tt, defers := [] } :=
  ⟨fun i => tt.getD i undef, h3, h13, h14, h18, h22, h23, h24, congrArg (fun x => Act.mk x []) (arr_lit tt 210 h)⟩
def LR3 (bl bq R k t : Nat) (a : Act) : Prop := ∃ u : Nat → Value, u 14 = .slice (some ⟨bl, 0, none⟩) R R ∧ u 22 = .int .i64 (k : Int) ∧ u 26 = .slice (some ⟨bq, 0, none⟩) R R ∧ u 27 = .int .i64 (t : Int) ∧ a = { tmps := #[u 0, u 1, u 2, u 3, u 4, u 5, u 6, u 7, u 8, u 9, u 10, u 11, u 12, u 13, u 14, u 15, u 16, u 17, u 18, u 19, u 20, u 21, u 22, u 23, u 24, u 25, u 26, u 27, u 28, u 29, u 30, u 31, u 32, u 33, u 34, u 35, u 36, u 37, u 38, u 39, u 40, u 41, u 42, u 43, u 44, u 45, u 46, u 47, u 48, u 49, u 50, u 51, u 52, u 53, u 54, u 55, u 56, u 57, u 58, u 59, u 60, u 61, u 62, u 63, u 64, u 65, u 66, u 67, u 68, u 69, u 70, u 71, u 72, u 73, u 74, u 75, u 76, u 77, u 78, u 79, u 80, u 81, u 82, u 83, u 84, u 85, u 86, u 87, u 88, u 89, u 90, u 91, u 92, u 93, u 94, u 95, u 96, u 97, u 98, u 99, u 100, u 101, u 102, u 103, u 104, u 105, u 106, u 107, u 108, u 109, u 110, u 111, u 112, u 113, u 114, u 115, u 116, u 117, u 118, u 119, u 120, u 121, u 122, u 123, u 124, u 125, u 126, u 127, u 128, u 129, u 130, u 131, u 132, u 133, u 134, u 135, u 136, u 137, u 138, u 139, u 140, u 141, u 142, u 143, u 144, u 145, u 146, u 147, u 148, u 149, u 150, u 151, u 152, u 153, u 154, u 155, u 156, u 157, u 158, u 159, u 160, u 161, u 162, u 163, u 164, u 165, u 166, u 167, u 168, u 169, u 170, u 171, u 172, u 173, u 174, u 175, u 176, u 177, u 178, u 179, u 180, u 181, u 182, u 183, u 184, u 185, u 186, u 187, u 188, u 189, u 190, u 191, u 192, u 193, u 194, u 195, u 196, u 197, u 198, u 199, u 200, u 201, u 202, u 203, u 204, u 205, u 206, u 207, u 208, u 209], defers := [] }
set_option maxRecDepth 10000 in
theorem LR3.of {bl bq R k t : Nat} {tt : Array Value} (h : tt.size = 210) (h14 : tt.getD 14 undef = .slice (some ⟨bl, 0, none⟩) R R) (h22 : tt.getD 22 undef = .int .i64 (k : Int)) (h26 : tt.getD 26 undef = .slice (some ⟨bq, 0, none⟩) R R) (h27 : tt.getD 27 undef = .int .i64 (t : Int)) : LR3 bl bq R k t { tmps := tt, defers := [] } :=
  ⟨fun i => tt.getD i undef, h14, h22, h26, h27, congrArg (fun x => Act.mk x []) (arr_lit tt 210 h)⟩
end Go.Proofs.Ytlnbbnojkpdccaa
namespace Go.Proofs.Ytlnbbnojkpdccaa
open Go.RowKit
/-! HeadsRows: a round of its first loop. -/
set_option maxRecDepth 100000 in
set_option maxHeartbeats 8000000 in
theorem roundR1 {wr : World} {x : WtD} {B : Nat} {row : Int} {oo : Option Addr} {no oc : Nat} {hu : Option Addr} {C hc bl bz R t : Nat} {hf : Nat → Int} (HQ : Hid (MtR wr x.Q)) (hn : x.Q.n = R * C) (hC : 1 ≤ C) (hRC : x.Q.n ≤ 1048576) (HB : Hid (wr.rowIs B 46 18 (wtc x))) (HH : Hid (RdA wr hu 1 C hc (fun i => .int .i8 (hf i)))) (HG : Hid (∀ i, i < C → -128 ≤ hf i ∧ hf i ≤ 127))
    (HL : Hid (RdA wr (some ⟨bl, 0, none⟩) 1 R R (fun r => .int .i64 (mv x.Q.f hf C r)))) (HZ : Hid (RdA wr (some ⟨bz, 0, none⟩) 1 R R (fun _ => .int .i64 0))) (hR : R ≤ 1048576) (ht : t < R)
    (a : Act) (ha : LR1 B row oo no oc hu C hc bl bz R t a) (K : Act → World → Prop) (HR : Hid (∀ a' w', LR1 B row oo no oc hu C hc bl bz R (t + 1) a' → w' = wr → K a' w')) :
    loopR1.wp Try.prog (Exit.then K (fun _ _ _ => False)) a wr := by
  conv => arg 2; whnf
  obtain ⟨u, e2, e3, e4, e13, e14, e16, e18, e19, rfl⟩ := ha
  rw [e2, e3, e4, e13, e14, e16, e18, e19]
  clear e2 e3 e4 e13 e14 e16 e18 e19
  obtain ⟨lo, hlo, hlb, hw1, hw2⟩ := row_prods hn ht
  have HLO := hidd hlo
  have HN := hidd hn
  clear hlo hn
  have i0 : (0 : Int) ≤ (t : Int) := by omega
  have i1 : (t : Int) < (R : Int) := by omega
  have hqn : 0 < x.Q.n := by clear hw1 hw2; omega
  have hqc := HQ.out.rd.le
  have hqt := HQ.out.rd.top
  unfold maxLen at hqt
  have b16 : wr.cell? ⟨B, 16, none⟩ = some (.slice x.Q.O x.Q.n x.Q.c) := HB.out.cell (i := 16) (by decide)
  obtain ⟨b1, o1, eq, _⟩ := HQ.out.rd.one hqn
  have hrd := HQ.out.rd
  rw [eq] at b16 hrd
  have HCUT := hidd (hrd.cut (lo := lo) (m := C) hlb)
  obtain ⟨b2, o2, el, hl⟩ := HL.out.one (by clear hw1 hw2; omega)
  obtain ⟨b3, o3, ez, hz⟩ := HZ.out.one (by clear hw1 hw2; omega)
  simp only [Option.some.injEq, Addr.mk.injEq, and_true] at el ez
  obtain ⟨rfl, rfl⟩ := el
  obtain ⟨rfl, rfl⟩ := ez
  have q2 := hl t ht
  have q3 := hz t ht
  simp only [Nat.zero_add] at q2 q3
  have HDOT : Hid (dot (fun i => x.Q.f (lo + i)) hf C = mv x.Q.f hf C t) := by show _ = _; rw [HLO.out]; rfl
  clear hl hz hrd eq
  go_wp2_with fail
  refine (dot_ok HCUT.out HH.out (fun i hi => HQ.out.bd (lo + i) (by clear hw1 hw2; omega)) HG.out).mono ?_
  rintro e w9 ⟨rfl, hw9⟩
  rw [hw9, HDOT.out]
  clear hw9 w9 HDOT
  generalize mv x.Q.f hf C t = ll at *
  have hne : (ll != ll) = false := by simp
  go_wp2
  exact HR.out _ _ (LR1.of rfl rfl rfl rfl rfl rfl rfl rfl (by first | rfl | simp)) rfl
end Go.Proofs.Ytlnbbnojkpdccaa
namespace Go.Proofs.Ytlnbbnojkpdccaa
open Go.RowKit
/-! HeadsRows: a round of its second loop. -/
/-- Head's numbers of a copy, some of them written over -/
structure R2 (w1 wr : World) (x y : WtD) (g vb C k : Nat) (qf : Nat → Int) : Prop where
  own : Own wr 0 57 1 (.slice (some ⟨g, 0, none⟩) y.Q.n y.Q.c) y.Q.n (fun j => .int .i8 (qf j))
  box : wr.rowIs vb 46 18 (wtc y)
  but : But g w1 wr
  size : wr.heap.size = w1.heap.size
  same : ∀ j, j / C ≠ k → qf j = x.Q.f j
  bd : ∀ j, j < y.Q.n → -127 ≤ qf j ∧ qf j ≤ 127
theorem R2.set {w1 wr : World} {x y : WtD} {g vb C k : Nat} {qf : Nat → Int} (h : R2 w1 wr x y g vb C k qf) (hvg : vb ≠ g) {j : Nat} (hj : j / C = k) {z : Int} (hz : -127 ≤ z ∧ z ≤ 127) : R2 w1 (wr.setCell ⟨g, j, none⟩ (.int .i8 z)) x y g vb C k (fun i => if i = j then z else qf i) := by
  refine ⟨(h.own.put j (.int .i8 z)).congr (fun i _ => by by_cases e : i = j; · rw [if_pos e, if_pos e]
                                                          · rw [if_neg e, if_neg e]), h.box.setOther (by show vb ≠ g; exact hvg) _, fun q hq => ?_, by simpa using h.size, fun i hi => ?_, fun i hi => ?_⟩
  · rw [Below.heap_setCell _ _ _ _ (by show ¬ (q = g); exact hq)]
    exact h.but q hq
  · have : i ≠ j := fun e => hi (by rw [e]; exact hj)
    rw [if_neg this]
    exact h.same i hi
  · by_cases e : i = j
    · rw [if_pos e]; exact hz
    · rw [if_neg e]; exact h.bd i hi
theorem R2.drew {w1 wr : World} {x y : WtD} {g vb C k : Nat} {qf : Nat → Int} (h : R2 w1 wr x y g vb C k qf) : R2 w1 wr.drew x y g vb C k qf := by
  have f : Below wr.heap.size wr wr.drew := (Below.refl _ _).drew
  exact ⟨h.own.kept f, row_fresh h.box f, fun q hq => h.but q hq, h.size, h.same, h.bd⟩
set_option maxRecDepth 100000 in
set_option maxHeartbeats 8000000 in
theorem roundR2 {w1 wr : World} {x y : WtD} {g vb : Nat} {oo : Option Addr} {no oc : Nat} {of : Nat → Int} {hu : Option Addr} {C hc bl R k i : Nat} {qf : Nat → Int} (HS : Hid (R2 w1 wr x y g vb C k qf)) (hQ : y.Q.O = some ⟨g, 0, none⟩) (hn : y.Q.n = R * C) (hk : k < R) (hvg : vb ≠ g) (hqb : y.Q.n ≤ 1048576) (HO : Hid (RdA wr oo 1 no oc (fun j => .int .i8 (of j)))) (HOB : Hid (∀ j, j < no → -128 ≤ of j ∧ of j ≤ 127)) (hi : i < C) (hio : i < no) {B0 : Nat} (hBg : B0 ≤ g)
    (a : Act) (ha : LR2 vb oo no oc hu C hc bl R k i a) (K : Act → World → Prop) (HR : Hid (∀ a' w' qf', LR2 vb oo no oc hu C hc bl R k (i + 1) a' → R2 w1 w' x y g vb C k qf' → Below B0 wr w' → K a' w')) :
    loopR2.wp Try.prog (Exit.then K (fun _ _ _ => False)) a wr := by
  conv => arg 2; whnf
  obtain ⟨u, e3, e13, e14, e18, e22, e23, e24, rfl⟩ := ha
  rw [e3, e13, e14, e18, e22, e23, e24]
  clear e3 e13 e14 e18 e22 e23 e24
  obtain ⟨lo, hlo, hlb, hw1, _⟩ := row_prods hn hk
  have HLO := hidd hlo
  clear hlo hn
  have hoc := HO.out.le
  have hot := HO.out.top
  unfold maxLen at hot
  obtain ⟨ob, of0, eo, hoc2⟩ := HO.out.one (by clear hw1; omega)
  have ci := hoc2 i hio
  have i0 : (0 : Int) ≤ (i : Int) := by omega
  have i1 : (i : Int) < (C : Int) := by omega
  have i2 : (i : Int) < (no : Int) := by omega
  have d1 : decide (i < C) = true := decide_eq_true hi
  have d2 : decide (i < no) = true := decide_eq_true hio
  rw [eo]
  have EO := hidd eo
  clear hoc2 eo
  by_cases hz : of i = -128
  · have hne : (of i != -128) = false := by simpa using hz
    go_wp2
    exact HR.out _ _ _ (LR2.of rfl (by rw [EO.out]; rfl) rfl rfl rfl rfl rfl (by first | rfl | simp)) HS.out (Below.refl _ _)
  · have hne : (of i != -128) = true := by simpa using hz
    have hob := HOB.out i hio
    have hqc : y.Q.n ≤ y.Q.c := HS.out.own.rda.le
    have hqt : y.Q.c ≤ maxLen := HS.out.own.rda.top
    unfold maxLen at hqt
    have b16 : wr.cell? ⟨vb, 16, none⟩ = some (.slice (some ⟨g, 0, none⟩) y.Q.n y.Q.c) := by
      have : wr.cell? ⟨vb, 16, none⟩ = some (.slice y.Q.O y.Q.n y.Q.c) := HS.out.box.cell (i := 16) (by decide)
      rw [hQ] at this
      exact this
    obtain ⟨g', eg, _, _, hgc, hgf⟩ := Own.at_ HS.out.own (by clear hw1; omega)
    simp only [Option.some.injEq, Addr.mk.injEq, and_true] at eg
    subst eg
    have cg := hgc (lo + i) (by clear hw1; omega)
    have fg := hgf (lo + i)
    have HST := hidd (HS.out.set hvg (j := lo + i) (z := of i) (by
      rw [HLO.out]
      have h9 : 0 < C := by clear hw1; omega
      rw [Nat.mul_comm, Nat.mul_add_div h9, Nat.div_eq_of_lt hi, Nat.add_zero]) (by clear hw1; omega))
    have j0 : (0 : Int) ≤ (lo : Int) + (i : Int) := by omega
    have j1 : (lo : Int) + (i : Int) < (y.Q.n : Int) := by clear hw1; omega
    clear hgc hgf hz hob
    go_wp2
    go_region
    go_wp2
    exact HR.out _ _ _ (LR2.of rfl (by rw [EO.out]; rfl) rfl rfl rfl rfl rfl (by first | rfl | simp)) HST.out.drew (((Below.refl _ _).setCell hBg _).drew)
set_option maxRecDepth 100000 in
set_option maxHeartbeats 8000000 in
theorem exitR2 {wr : World} {vb : Nat} {oo : Option Addr} {no oc : Nat} {hu : Option Addr} {C hc bl R k i : Nat} (h : ¬ (i < C ∧ i < no))
    (a : Act) (ha : LR2 vb oo no oc hu C hc bl R k i a) : loopR2.wp Try.prog (Exit.then (fun _ _ => False) (fun e a' w' => e = .exit 2 ∧ LR2 vb oo no oc hu C hc bl R k i a' ∧ w' = wr)) a wr := by
  conv => arg 2; whnf
  obtain ⟨u, e3, e13, e14, e18, e22, e23, e24, rfl⟩ := ha
  rw [e3, e13, e14, e18, e22, e23, e24]
  clear e3 e13 e14 e18 e22 e23 e24
  by_cases hc1 : i < C
  · have d1 : decide (i < C) = true := decide_eq_true hc1
    have d2 : decide (i < no) = false := decide_eq_false (fun q => h ⟨hc1, q⟩)
    have i1 : (i : Int) < (C : Int) := by omega
    have i2 : ¬ (i : Int) < (no : Int) := by omega
    clear h hc1
    go_wp2
    exact LR2.of rfl rfl rfl rfl rfl rfl rfl rfl
  · have d1 : decide (i < C) = false := decide_eq_false hc1
    have i1 : ¬ (i : Int) < (C : Int) := by omega
    clear h hc1
    go_wp2
    exact LR2.of rfl rfl rfl rfl rfl rfl rfl rfl
end Go.Proofs.Ytlnbbnojkpdccaa
namespace Go.Proofs.Ytlnbbnojkpdccaa
open Go.RowKit
/-! HeadsRows: a round of its third loop. -/
set_option maxRecDepth 100000 in
set_option maxHeartbeats 8000000 in
theorem roundR3 {wr : World} {bl bq R k t : Nat} {F G : Nat → Int} (HL : Hid (RdA wr (some ⟨bl, 0, none⟩) 1 R R (fun r => .int .i64 (F r)))) (HQ : Hid (RdA wr (some ⟨bq, 0, none⟩) 1 R R (fun r => .int .i64 (G r)))) (hR : R ≤ 1048576) (ht : t < R) (HE : Hid (t ≠ k → G t = F t))
    (a : Act) (ha : LR3 bl bq R k t a) (K : Act → World → Prop) (HR : Hid (∀ a' n, LR3 bl bq R k (t + 1) a' → K a' (wr.drewN n))) :
    loopR3.wp Try.prog (Exit.then K (fun _ _ _ => False)) a wr := by
  conv => arg 2; whnf
  obtain ⟨u, e14, e22, e26, e27, rfl⟩ := ha
  rw [e14, e22, e26, e27]
  clear e14 e22 e26 e27
  have i0 : (0 : Int) ≤ (t : Int) := by omega
  have i1 : (t : Int) < (R : Int) := by omega
  by_cases e : t = k
  · have hne : ((t : Int) != (k : Int)) = false := by simp [e]
    clear e
    go_wp2
    go_quiet (fail)
    go_wp2
    exact HR.out _ _ (LR3.of rfl rfl rfl rfl (by first | rfl | simp))
  · have hne : ((t : Int) != (k : Int)) = true := by simp; omega
    obtain ⟨b2, o2, el, hl⟩ := HL.out.one (by omega)
    obtain ⟨b3, o3, ez, hz⟩ := HQ.out.one (by omega)
    simp only [Option.some.injEq, Addr.mk.injEq, and_true] at el ez
    obtain ⟨rfl, rfl⟩ := el
    obtain ⟨rfl, rfl⟩ := ez
    have q2 := hl t ht
    have q3 := hz t ht
    rw [HE.out e] at q3
    simp only [Nat.zero_add] at q2 q3
    generalize F t = ll at *
    have hn2 : (ll != ll) = false := by simp
    clear hl hz e
    go_wp2
    go_quiet (fail)
    go_wp2
    exact HR.out _ _ (LR3.of rfl rfl rfl rfl (by first | rfl | simp))
end Go.Proofs.Ytlnbbnojkpdccaa
