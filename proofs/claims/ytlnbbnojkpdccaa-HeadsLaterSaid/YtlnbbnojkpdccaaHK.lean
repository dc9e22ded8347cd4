import Derived.Test.YtlnbbnojkpdccaaHI
namespace Go.Proofs.Ytlnbbnojkpdccaa
open Go.RowKit Go.Shelf
attribute [local go_sem] Oper.semAt_some
/-! The loop of HeadsLater. -/
def rgt : Code → Code
  | .seq _ c => c
  | c => c
def lft : Code → Code
  | .seq c _ => c
  | c => c
def inb : Code → Code
  | .block _ c => c
  | c => c
noncomputable def loopC : Code := inb (rgt (lft (rgt (rgt (rgt (rgt (rgt (rgt (rgt (rgt (rgt (Try.f5.body.getD .skip))))))))))))
structure LC (w W0 : World) (ao : Option Addr) (n cap : Nat) (f : Nat → Int) (bo : Option Addr) (m cb : Nat) (g : Nat → Int) (ul : Option Addr) (cl Bn gq cq : Nat) (uw : Option Addr) (cw Wb Nb bl bW : Nat) : Prop where
  hn : n ≤ 17592186043904
  rd : RdA w ao 1 n cap (fun i => .int .i64 (f i))
  rl : RdA w bo 1 m cb (fun i => .int .i64 (g i))
  low : Below w.heap.size w W0
  box0 : Boxed W0 w.heap.size 22 (.slice ao n cap)
  box2 : Boxed W0 (w.heap.size + 2) 4 (.bool false)
  boxW : Boxed W0 Wb 24 (.slice uw n cw)
  cellB : W0.cell? ⟨Bn, 0, none⟩ = some (.slice (some ⟨gq, 0, none⟩) n cq)
  ord : OrdAt W0 gq (ordL f n)
  want : Own W0 bW 3 1 (.slice uw n cw) n (fun j => .int .i64 (sg f n j : Nat))
  lul : 0 < n → ul = some ⟨bl, 0, none⟩
  lcl : n ≤ cl
  ltop : cl ≤ 9223372036854775807
  lrow : LRow n bl W0
  o1 : w.heap.size + 2 < bl
  o2 : w.heap.size + 2 < Nb
  o3 : Wb ≠ Nb ∧ Wb ≠ bl
  o4 : Bn ≠ Nb ∧ Bn ≠ bl ∧ Bn < W0.heap.size
  o5 : gq ≠ Nb ∧ gq ≠ bl ∧ gq < W0.heap.size
  o6 : ∀ z, (Value.slice uw n cw).ownBlock = some z → z ≠ Nb ∧ z ≠ bl
  o7 : Nb < W0.heap.size
  o8 : bl ≠ Nb
def LFrame (w : World) (n : Nat) (bo : Option Addr) (m cb : Nat) (ul : Option Addr) (cl Bn Wb j : Nat) (ds : List Deferred) (a : Act) : Prop := ∃ u : Nat → Value, u 1 = .slice bo m cb ∧ u 3 = .pointer (some ⟨w.heap.size, 0, none⟩) ∧ u 6 = .pointer (some ⟨w.heap.size + 2, 0, none⟩) ∧ u 8 = .slice ul n cl ∧ u 9 = .func (.func 25) #[] #[.pointer (some ⟨Bn, 0, none⟩)] ∧ u 10 = .pointer (some ⟨Wb, 0, none⟩) ∧ u 15 = .int .i64 (j : Int) ∧ a = { tmps := #[u 0, u 1, u 2, u 3, u 4, u 5, u 6, u 7, u 8, u 9, u 10, u 11, u 12, u 13, u 14, u 15, u 16, u 17, u 18, u 19, u 20, u 21, u 22, u 23, u 24, u 25, u 26, u 27, u 28, u 29, u 30, u 31, u 32, u 33, u 34, u 35, u 36, u 37, u 38, u 39, u 40, u 41, u 42, u 43, u 44, u 45, u 46, u 47, u 48, u 49, u 50, u 51, u 52, u 53, u 54, u 55, u 56, u 57, u 58, u 59, u 60, u 61, u 62, u 63, u 64, u 65, u 66, u 67, u 68, u 69, u 70, u 71, u 72, u 73, u 74, u 75, u 76, u 77, u 78, u 79, u 80, u 81, u 82, u 83, u 84, u 85, u 86, u 87, u 88, u 89, u 90, u 91, u 92, u 93, u 94, u 95, u 96, u 97, u 98, u 99, u 100, u 101, u 102, u 103, u 104, u 105, u 106, u 107, u 108, u 109, u 110, u 111, u 112, u 113, u 114, u 115, u 116, u 117, u 118, u 119, u 120, u 121, u 122, u 123, u 124, u 125, u 126, u 127, u 128, u 129, u 130, u 131, u 132, u 133, u 134, u 135, u 136, u 137, u 138, u 139, u 140, u 141, u 142, u 143, u 144, u 145, u 146, u 147, u 148], defers := ds }
theorem arr_lit (t : Array Value) (k : Nat) (h : t.size = k) : t = ((List.range k).map (fun i => t.getD i undef)).toArray := by
  apply Array.ext
  · simp [h]
  · intro i h1 h2
    simp [Array.getD, h1]
set_option maxRecDepth 10000 in
theorem LFrame.of {w : World} {n : Nat} {bo : Option Addr} {m cb : Nat} {ul : Option Addr} {cl Bn Wb j : Nat} {ds : List Deferred} {t : Array Value} (h : t.size = 149) (h1 : t.getD 1 undef = .slice bo m cb) (h3 : t.getD 3 undef = .pointer (some ⟨w.heap.size, 0, none⟩)) (h6 : t.getD 6 undef = .pointer (some ⟨w.heap.size + 2, 0, none⟩)) (h8 : t.getD 8 undef = .slice ul n cl) (h9 : t.getD 9 undef = .func (.func 25) #[] #[.pointer (some ⟨Bn, 0, none⟩)]) (h10 : t.getD 10 undef = .pointer (some ⟨Wb, 0, none⟩)) (h15 : t.getD 15 undef = .int .i64 (j : Int)) : LFrame w n bo m cb ul cl Bn Wb j ds { tmps := t, defers := ds } :=
  ⟨fun i => t.getD i undef, h1, h3, h6, h8, h9, h10, h15, congrArg (fun x => Act.mk x ds) (arr_lit t 149 h)⟩
section
variable {w W0 : World} {ao : Option Addr} {n cap : Nat} {f : Nat → Int} {bo : Option Addr} {m cb : Nat} {g : Nat → Int} {ul : Option Addr} {cl Bn gq cq : Nat} {uw : Option Addr} {cw Wb Nb bl bW : Nat}
/-- the marks that the rounds left -/
def Mks (W0 W : World) (Ds : List Nat) : Prop := Ds.Nodup ∧ ∀ D ∈ Ds, W0.heap.size ≤ D ∧ W.heap[D]? = some (.deferred (some []))
theorem Mks.keep {W0 W W' : World} {Ds : List Nat} (h : Mks W0 W Ds) (k : KeepsOthers W W') : Mks W0 W' Ds := ⟨h.1, fun D hD => ⟨(h.2 D hD).1, k.same D _ (h.2 D hD).2 rfl⟩⟩
theorem Mks.cons {W0 W : World} {Ds : List Nat} (h : Mks W0 W Ds) {D : Nat} (hD : W0.heap.size ≤ D) (hW : W.heap[D]? = some (.deferred (some []))) (hne : D ∉ Ds) : Mks W0 W (D :: Ds) := ⟨List.nodup_cons.2 ⟨hne, h.1⟩, fun E hE => by
  rcases List.mem_cons.1 hE with rfl | e
  · exact ⟨hD, hW⟩
  · exact h.2 E e⟩
/-- what a round of a range keeps: the list so far -/
def GI (W1 : World) (pre : List (Int × Int)) (V : World) : Prop := ∃ v, Boxed V W1.heap.size 24 v ∧ Own V (W1.heap.size + 1) 3 1 v pre.length (ldF pre) ∧ Below W1.heap.size W1 V ∧ W1.heap.size + 1 ≤ V.heap.size
theorem GI.from (W1 : World) (pre : List (Int × Int)) {B : Nat} (hB : W1.heap.size + 1 ≤ B) : OwnFrom B (fun (_ : Unit) V => GI W1 pre V) := by
  rintro u X Y row ⟨v, h1, h2, h3, h4⟩ hg hr
  exact ⟨v, boxed_own _ _ (fun (_ : Unit) => v) () X Y row h1 hg (fun r e => (hr r e).2), own_from _ _ _ _ _ _ _ () X Y row h2 hg hr, ownFrom_below (β := Unit) (Nat.le_refl _) (by omega) () X Y row h3 hg hr, Nat.le_trans h4 hg.size⟩
set_option maxRecDepth 100000 in
set_option maxHeartbeats 16000000 in
theorem later_loop (C : LC w W0 ao n cap f bo m cb g ul cl Bn gq cq uw cw Wb Nb bl bW) (Q : Exit → Act → World → Prop)
    (hQ : ∀ a' W' Ds, LFrame w n bo m cb ul cl Bn Wb 3 (Ds.map mark) a' → Mks W0 W' Ds → Kb W0 W' Nb bl → Q (.exit 2) a' W')
    (a : Act) (W : World) (Ds : List Nat) (ha : LFrame w n bo m cb ul cl Bn Wb 0 (Ds.map mark) a) (hM : Mks W0 W Ds) (hK : Kb W0 W Nb bl) (hR : LRow n bl W) : loopC.wpIn Fence.wide 5 Try.prog Q a W := by
  dsimp only [loopC, Try.f5, Option.getD, rgt, lft, inb]
  refine loop_inv (fun q a W => ∃ (j : Nat) (Ds : List Nat), q + j = 3 ∧ LFrame w n bo m cb ul cl Bn Wb j (Ds.map mark) a ∧ Mks W0 W Ds ∧ Kb W0 W Nb bl ∧ LRow n bl W) 3 ⟨0, Ds, rfl, ha, hM, hK, hR⟩ ?round
  case round =>
    clear ha hM hK hR a W Ds
    rintro q a W ⟨j, Ds, hq, ⟨u, e1, e3, e6, e8, e9, e10, e15, rfl⟩, hM, hK, hR⟩
    rw [e1, e3, e6, e8, e9, e10, e15]
    clear e1 e3 e6 e8 e9 e10 e15
    obtain ⟨ds, EDS⟩ : ∃ ds, Hid (ds = Ds.map mark) := ⟨_, rfl⟩
    rw [← EDS.out]
    have HM := hidd hM
    have HC := hidd C
    clear hM
    by_cases hj : j < 3
    · have tj : decide ((j : Int) < 3) = true := by simp; omega
      have hLn : (ordL f n).length = n := ordL_len f n
      have b0 := hK.box C.box0 (by have := C.o2; omega) (by have := C.o1; omega)
      have b2 := hK.box C.box2 (by have := C.o2; omega) (by have := C.o1; omega)
      have bw := hK.box C.boxW C.o3.1 C.o3.2
      have hO := hK.ord C.ord C.o5.1 C.o5.2.1
      have hcl := hK.cell C.cellB C.o4.1 C.o4.2.1
      have hsz := hK.size
      have hlow := hK.below C.low (by have := C.o2; omega) (by have := C.o1; omega)
      have hsw := C.low.size
      have o1 := C.o1
      have o2 := C.o2
      have o4 := C.o4.2.2
      have o5 := C.o5.2.2
      have hn := C.hn
      have l0 := b0.lt
      have l2 := b2.lt
      have lw := bw.lt
      gi_wp2_with (fail)
      have fa := fresh_alloc W (.cells #[.slice none 0 0] 24)
      have bg := Boxed.new W 24 (.slice none 0 0)
      have hWs : (W.alloc (.cells #[.slice none 0 0] 24)).heap.size = W.heap.size + 1 := by simp
      refine wpIn_rangeFunc_ownH (α := Int × Int) rfl (by decide) (gf := 25) (lb := #[.pointer (some ⟨Bn, 0, none⟩)]) rfl trivial (enters_of Try.func25 (by kernel_rfl) rfl)
        (iter_stops Fence.wide 4 trivial rfl (by decide) Bn gq cq (ordL f n) (by omega) W (by omega) (by omega) (by rw [hLn]; exact hcl) hO) KpB.trans (fun V l o o' hl hV hc _ => ⟨by simp, World.putObj_heap_other (by rw [hWs] at hl; omega), World.putObj_heap_other (by rw [hWs] at hl; omega)⟩) fa (fun _ => rfl)
        (fun pre V => GI W pre V)
        (fun cd pre V => cd = .ret ∧ hasBad f n pre)
        ?hI ?hIx ?h0
        (fun z a' _ => a' = { tmps := #[u 0, .slice bo m cb, u 2, .pointer (some ⟨w.heap.size, 0, none⟩), u 4, u 5, .pointer (some ⟨w.heap.size + 2, 0, none⟩), u 7, .slice ul n cl, .func (.func 25) #[] #[.pointer (some ⟨Bn, 0, none⟩)], .pointer (some ⟨Wb, 0, none⟩), u 11, u 12, u 13, u 14, .int .i64 (j : Int), .pointer (some ⟨W.heap.size, 0, none⟩), .int .i64 z.1, .int .i64 z.2, u 19, u 20, u 21, u 22, u 23, u 24, u 25, u 26, u 27, u 28, u 29, u 30, u 31, u 32, u 33, u 34, u 35, u 36, u 37, u 38, u 39, u 40, u 41, u 42, u 43, u 44, u 45, u 46, u 47, u 48, u 49, u 50, u 51, u 52, u 53, u 54, u 55, u 56, u 57, u 58, u 59, u 60, u 61, u 62, u 63, u 64, u 65, u 66, u 67, u 68, u 69, u 70, u 71, u 72, u 73, u 74, u 75, u 76, u 77, u 78, u 79, u 80, u 81, u 82, u 83, u 84, u 85, u 86, .int .i64 (j : Int), .bool true, u 89, u 90, .func (.func 25) #[] #[.pointer (some ⟨Bn, 0, none⟩)], .int .i64 z.1, .int .i64 z.2, u 94, u 95, u 96, u 97, u 98, u 99, u 100, u 101, u 102, u 103, u 104, u 105, u 106, u 107, u 108, u 109, u 110, u 111, u 112, u 113, u 114, u 115, u 116, u 117, u 118, u 119, u 120, u 121, u 122, u 123, u 124, u 125, u 126, u 127, u 128, u 129, u 130, u 131, u 132, u 133, u 134, u 135, u 136, u 137, u 138, u 139, u 140, u 141, u 142, u 143, u 144, u 145, u 146, u 147, u 148], defers := [] })
        ?hAx ?assign ?body ?done ?stop
      case hI =>
        rintro pre X Y row h1 hg hr
        exact GI.from W pre (by rw [hWs]; exact Nat.le_refl _) () X Y row h1 hg hr
      case hIx =>
        rintro cd pre X Y row h1 hg hr
        exact h1
      case h0 => exact ⟨_, bg, own_nil _ _ _ _ _, fa, by rw [hWs]; exact Nat.le_refl _⟩
      case hAx =>
        rintro z a' _ X Y row e1 hg hr
        exact e1
      case assign =>
        rintro l pre ⟨x, y⟩ V K hi hK2
        have HI := hidd hi
        clear hi
        unfold encX
        gi_wp2
        exact hK2 _ _ (KeepsFrom.refl _ _) (KpB.refl _ _ _) HI.out rfl
      case body =>
        rintro l pre ⟨x, y⟩ a' V hl hlr ⟨v, h1, h2, h3, h4⟩ rfl hlt
        have hO2 := h2
        obtain ⟨p, uc, rfl, hrd⟩ := h2.rd
        rw [hLn] at hlt
        have hVl := fresh_trans hlow h3
        obtain ⟨bl0, ol, rfl, hcl2⟩ := (HC.out.rd.fresh hVl).one (by omega)
        have B0 := Boxed.trans' b0 h3
        have B2 := Boxed.trans' b2 h3
        have c0 := B0.cell
        have c2 := B2.cell
        have d2 := B2.frozen
        have c4 := h1.cell
        clear hrd h2
        by_cases hx0 : x < 0
        · have hd : decide (x < 0) = true := decide_eq_true hx0
          have HBAD : Hid (¬ good f n (x, y)) := fun ⟨t, _, e⟩ => by simp only [Prod.mk.injEq] at e; omega
          gi_wp2
          exact ⟨(KeepsOthers.setCell _ _ _).from _, rfl, _, List.mem_append.2 (.inr (List.mem_singleton.2 rfl)), HBAD.out⟩
        obtain ⟨t, rfl⟩ := Int.eq_ofNat_of_zero_le (show 0 ≤ x by omega)
        have hd : decide ((t : Int) < 0) = false := decide_eq_false (by omega)
        by_cases ht : n ≤ t
        · have hd1 : decide (n ≤ t) = true := decide_eq_true ht
          have HBAD : Hid (¬ good f n ((t : Int), y)) := fun ⟨t', _, e⟩ => by simp only [Prod.mk.injEq] at e; omega
          gi_wp2
          exact ⟨(KeepsOthers.setCell _ _ _).from _, rfl, _, List.mem_append.2 (.inr (List.mem_singleton.2 rfl)), HBAD.out⟩
        have hd1 : decide (n ≤ t) = false := decide_eq_false ht
        have i0 : (0 : Int) ≤ (t : Int) := by omega
        have i1 : (t : Int) < (n : Int) := by omega
        have ct := hcl2 t (by omega)
        clear hcl2
        by_cases hy : y = f t
        · subst hy
          have HX : Hid (∀ (w0 : World) (ty : TypeId), (w0.alloc (.cells #[.int .i64 (t : Int)] ty)).cell? ⟨w0.heap.size, 0, none⟩ = some (ldF (pre ++ [((t : Int), f t)]) pre.length)) := fun w0 ty => by rw [new_cell]; unfold ldF; simp
          have HO3 : Hid (Own (V.alloc (.cells #[.int .i64 (t : Int)] 3)) (W.heap.size + 1) 3 1 (.slice p pre.length uc) pre.length (ldF (pre ++ [((t : Int), f t)]))) := (hO2.kept (fresh_alloc _ _)).congr (fun j hj => by unfold ldF; rw [List.getD_eq_getElem?_getD, List.getD_eq_getElem?_getD, List.getElem?_append_left (by omega)])
          have HONE : Hid ((ldF (pre ++ [((t : Int), f t)]) pre.length).oneCell' = true) := by show _ = _; unfold ldF; rfl
          gi_wp2_with (gi_at_builtin; refine wpListIn_own1 _ rfl _ _ 24 rfl (W.heap.size + 1) 3 (.int .i64 0) 8 Try.underlying24 infoI rfl _ pre.length (ldF (pre ++ [((t : Int), f t)])) rfl HO3.out _ 1 rfl (HX.out _ _) HONE.out (by omega) (by omega) (by simp; omega) ?_)
          intro u' c' w1 hown' hgr
          have hw1 := hgr.size
          have hne : some W.heap.size ≠ (Value.slice p pre.length uc).ownBlock := fun e => by have := (HO3.out.lt _ e.symm).1; omega
          have b9 := (h1.alloc (.cells #[.int .i64 (t : Int)] 3)).kept hgr hne
          have c9 := b9.cell
          have f9 := b9.frozen
          have hkb : ∀ z, z < W.heap.size → w1.heap[z]? = V.heap[z]? := fun z hz => (hgr.block z (by simp; omega) (fun e => by have := (HO3.out.lt _ e.symm).1; omega)).trans (Below.heap_alloc _ _ _ (by omega))
          have hf1 := (h3.alloc (by omega) (.cells #[.int .i64 (t : Int)] 3)).grown hgr (by simp; omega) (fun z hz => by have := (HO3.out.lt _ hz).1; omega)
          gi_wp2
          refine ⟨(((KeepsOthers.alloc V _).trans (keeps_app hgr (fun r e => HO3.out.cells_ e))).trans (KeepsOthers.setCell _ _ _)).from _, ⟨by simp at hw1 ⊢; omega, (Below.heap_setCell _ _ _ _ (by show ¬ (_ = W.heap.size); omega)).trans (hkb _ (by omega)), (Below.heap_setCell _ _ _ _ (by show ¬ (_ = W.heap.size); omega)).trans (hkb _ (by omega))⟩, _, b9.set _, ?_, hf1.setCell (Nat.le_refl _) _, by simp at hw1 ⊢; omega⟩
          have := ownsRow_setCell_below hown' (a := ⟨W.heap.size, 0, none⟩) (by show W.heap.size < _; omega) (.slice u' (pre.length + 1) c')
          rw [show (pre ++ [((t : Int), f t)]).length = pre.length + 1 by simp]
          exact this
        · have hd3 : (y != f t) = true := by simpa using hy
          have HBAD : Hid (¬ good f n ((t : Int), y)) := fun ⟨t', _, e⟩ => by
            simp only [Prod.mk.injEq] at e
            have : t' = t := by omega
            subst this
            exact hy e.2
          gi_wp2
          exact ⟨(KeepsOthers.setCell _ _ _).from _, rfl, _, List.mem_append.2 (.inr (List.mem_singleton.2 rfl)), HBAD.out⟩
      case done =>
        rintro D xs V hD rfl ⟨v, h1, h2, h3, h4⟩ hV
        rw [hLn] at h2
        rw [hWs] at hD
        obtain ⟨p, uc, rfl, _⟩ := h2.rd
        have c4 := h1.cell
        have cW := (Boxed.trans' bw h3).cell
        have hg1 : RdA V p 1 n uc (fun j => .int .i64 (sg f n j : Nat)) := h2.rda.congr (fun j hj => by
          unfold ldF
          rw [List.getD_eq_getElem?_getD, (ordL_get (by omega)).1]
          rfl)
        have hwW : RdA W uw 1 n cw (fun j => .int .i64 (sg f n j : Nat)) := ⟨C.want.rda.le, C.want.rda.top, fun h0 => by
          have ho6 := C.o6
          obtain ⟨gw, e, hc⟩ := C.want.at0 h0
          subst e
          have o6 := ho6 gw rfl
          exact ⟨gw, 0, rfl, fun j hj => by rw [Nat.zero_add]; exact hK.cell (hc j (by omega)) o6.1 o6.2⟩⟩
        have HE := hidd (eq_rows hg1 (hwW.fresh h3) (fun _ _ => rfl))
        have hVs := h3.size
        gi_wp2_with (fail)
        refine ⟨trivial, ?_⟩
        gi_at_call 11
        refine (callsIn_wide.2 HE.out).mono ?_
        rintro e V2 ⟨rfl, f2⟩
        have g2 := fresh_trans h3 f2
        have HK2 := hidd (hK.fresh g2)
        have hDV := (Array.getElem?_eq_some_iff.1 hV).1
        have HM2 : Hid (Mks W0 V2 (D :: Ds)) := (HM.out.keep ⟨g2.size, fun l _ e _ => (g2.block l (Array.getElem?_eq_some_iff.1 e).1).trans e⟩).cons (by omega) ((f2.block D hDV).trans hV) (fun hD3 => by
          have := (Array.getElem?_eq_some_iff.1 (HM.out.2 D hD3).2).1
          omega)
        have HL2 : Hid (LRow n bl V2) := fun h0 => (hR.blk (g2.block bl (hR.lt h0))) h0
        have hlcl := C.lcl
        have hltop := C.ltop
        have hmle := C.rl.le
        have hmtop := C.rl.top
        unfold maxLen at hmtop
        clear hg1 hwW HE cW c4 h1 h2 hV hO hcl bg fa b0 b2 bw HM
        gi_wp2_with (fail)
        gi_loopw [20] (fun vi wr => ∃ i : Nat, i ≤ n ∧ vi = .int .i64 (i : Int) ∧ Hid (LRow n bl wr) ∧ Hid (Kb W0 wr Nb bl) ∧ Hid (Mks W0 wr (D :: Ds))) (fun vi _ => n - (intOf vi).toNat)
        case atStart => exact ⟨0, Nat.zero_le _, by simp, HL2.out, HK2.out, HM2.out⟩
        case round =>
          clear HL2 HK2 HM2
          obtain ⟨i, hi, rfl, HL3, HK3, HM3⟩ := hrel
          by_cases hlt : i < n
          · have el := HC.out.lul (by omega)
            obtain ⟨cp, F, hr, hcp, hF⟩ := HL3.out (by omega)
            obtain ⟨y, hy⟩ := hF i hlt
            have cI := hr.cell (i := i) (by omega)
            rw [hy] at cI
            have fI := hr.frozen i
            have i0 : (0 : Int) ≤ (i : Int) := by omega
            have i1 : (i : Int) < (n : Int) := by omega
            rw [el]
            by_cases hm : i < m
            · have im : decide (i < m) = true := decide_eq_true hm
              by_cases hj0 : j = 0
              · have hjd : ((j : Int) == 0) = true := by simp [hj0]
                have hbel := HK3.out.below HC.out.low (by omega) (by omega)
                obtain ⟨b6, o6, eb, hc6⟩ := (HC.out.rl.fresh hbel).one (by omega)
                have c6 := hc6 i hm
                have hb6 : b6 ≠ bl := by
                  obtain ⟨b7, o7, eb7, hc7⟩ := HC.out.rl.one (by omega)
                  rw [eb7] at eb
                  injection eb with eb
                  injection eb with eb
                  have := lt_of_cell (hc7 0 (by omega))
                  omega
                rw [eb]
                clear hc6 hbel
                gi_wp2
                go_roundw
                case rel => exact ⟨i + 1, by omega, by go_num, (HL3.out.set i _).set i _, (HK3.out.set i _).set i _, (HM3.out.keep (KeepsOthers.setCell _ _ _)).keep (KeepsOthers.setCell _ _ _)⟩
                case measure => simp [intOf]; omega
              · have hjd : ((j : Int) == 0) = false := by simp; omega
                gi_wp2
                go_roundw
                case rel => exact ⟨i + 1, by omega, by go_num, HL3.out.set i _, HK3.out.set i _, HM3.out.keep (KeepsOthers.setCell _ _ _)⟩
                case measure => simp [intOf]; omega
            · have im : decide (i < m) = false := decide_eq_false hm
              gi_wp2
              go_roundw
              case rel => exact ⟨i + 1, by omega, by go_num, HL3.out.set i _, HK3.out.set i _, HM3.out.keep (KeepsOthers.setCell _ _ _)⟩
              case measure => simp [intOf]; omega
          · obtain rfl : n = i := by omega
            gi_wp2
            have e := EDS.out
            subst e
            exact ⟨q - 1, by omega, j + 1, D :: Ds, by omega, LFrame.of rfl rfl rfl rfl rfl rfl rfl (by first | rfl | simp), HM3.out, HK3.out, HL3.out⟩
      case stop =>
        rintro D cd pre V hD hp ⟨rfl, hbad⟩ hV
        obtain ⟨x, hx, hb⟩ := hbad
        obtain ⟨r, hr⟩ := hp
        exact absurd (ordL_mem.1 (by rw [← hr]; exact List.mem_append.2 (.inl hx))) hb
    · obtain rfl : j = 3 := by omega
      gi_wp2
      have e := EDS.out
      subst e
      exact hQ _ _ Ds (LFrame.of rfl rfl rfl rfl rfl rfl rfl rfl) HM.out hK
end
end Go.Proofs.Ytlnbbnojkpdccaa
