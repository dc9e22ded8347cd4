import Derived.Test.YtjjnfpeeipainaaKM
import Derived.Test.YtjjnfpeeipainaaKD
import Derived.Deep.DeepCutAuto
import Derived.Test.YtjjnfpeeipainaaKO
namespace Go.Proofs.Ytjjnfpeeipainaa
open Go.RowKit
/-! What is proposed stands as in a tree: its Clean. -/
theorem cntF_step (P : Nat → Int) (p : Int) (n : Nat) : cntF P (n + 1) p = cntF P n p + if P n = p then 1 else 0 := by rw [cntF]
theorem cntF_mono (P : Nat → Int) (p : Int) {a b : Nat} (h : a ≤ b) : cntF P a p ≤ cntF P b p := by
  induction b with
  | zero => obtain rfl : a = 0 := by omega
            exact Nat.le_refl _
  | succ b ih =>
    by_cases e : a = b + 1
    · rw [e]; exact Nat.le_refl _
    · have := ih (by omega)
      rw [cntF_step]
      omega
theorem cntF_more {P : Nat → Int} {p : Int} {i j : Nat} (h : i < j) (e : P i = p) : cntF P i p < cntF P j p := by
  have h1 := cntF_mono P p (show i + 1 ≤ j from h)
  rw [cntF_step, if_pos e] at h1
  omega
structure Strt (L : List (Int × Int)) (V : Int) (X : Nat → List Int) (e : Nat) (D : Nat → Nat) : Prop where
  shp : Shp L X e D
  nd : ∀ d, d < e → (X d).Nodup
  bd : ∀ d, d < e → ∀ x ∈ X d, 0 ≤ x ∧ x < V
  nz : ∀ i, i < L.length → tokF L i ≠ 0
section
variable {L : List (Int × Int)} {V : Int} {X : Nat → List Int} {e : Nat} {D : Nat → Nat}
theorem Strt.tok (h : Strt L V X e D) {i : Nat} (hi : i < L.length) : 1 ≤ tokF L i ∧ tokF L i < V := by
  have n := h.shp i hi
  have hk := n.kd
  have hm : tokF L i ∈ X (D i) := by
    rw [n.tk, List.getD_eq_getElem?_getD, List.getElem?_eq_getElem hk]
    exact List.getElem_mem _
  have b := h.bd _ n.dm _ hm
  have z := h.nz i hi
  omega
theorem Strt.mono (h : Strt L V X e D) {i j : Nat} (hij : i ≤ j) (hj : j < L.length) : D i ≤ D j ∧ parF L i ≤ parF L j := by
  induction j with
  | zero => obtain rfl : i = 0 := by omega
            exact ⟨Nat.le_refl _, Int.le_refl _⟩
  | succ j ih =>
    by_cases c : i = j + 1
    · rw [c]; exact ⟨Nat.le_refl _, Int.le_refl _⟩
    · have a := ih (by omega) (by omega)
      have b := (h.shp (j + 1) hj).mn (by omega)
      rw [Nat.add_sub_cancel] at b
      omega
theorem Strt.good (h : Strt L V X e D) {i : Nat} (hi : i < L.length) : Cl.gdW (parF L i) (tokF L i) V i := by
  have t := h.tok hi
  have n := h.shp i hi
  exact ⟨t.1, t.2, n.lo, n.hi⟩
/-- the tokens of a node's way -/
def lsF (L : List (Int × Int)) (V : Int) (i : Nat) : List Int := (Cl.wl (parF L) (tokF L) V i).getD []
theorem Strt.way (h : Strt L V X e D) : ∀ i, i < L.length → Cl.wl (parF L) (tokF L) V i = some (lsF L V i) ∧ (lsF L V i).length = D i + 1 ∧ (parF L i = -1 → lsF L V i = [tokF L i]) ∧ (0 ≤ parF L i → lsF L V i = lsF L V (parF L i).toNat ++ [tokF L i]) := by
  intro i
  induction i using Nat.strongRecOn with
  | ind i ih =>
    intro hi
    have g := h.good hi
    have n := h.shp i hi
    rcases n.up with ⟨p1, d0⟩ | ⟨p0, dd⟩
    · have w := Cl.wl_one g p1
      have l : lsF L V i = [tokF L i] := by unfold lsF; rw [w]; rfl
      exact ⟨by rw [w, l], by rw [l, d0]; rfl, fun _ => l, fun q => absurd q (by omega)⟩
    · have hp := n.hi
      obtain ⟨a1, a2, _, _⟩ := ih (parF L i).toNat (by omega) (by omega)
      have w := Cl.wl_up g (by omega)
      rw [a1] at w
      have l : lsF L V i = lsF L V (parF L i).toNat ++ [tokF L i] := by unfold lsF at *; rw [w]; rfl
      exact ⟨by rw [w, l]; rfl, by rw [l, List.length_append, a2, dd]; rfl, fun q => absurd q (by omega), fun _ => l⟩
theorem Strt.kids (h : Strt L V X e D) {i j : Nat} (hij : i < j) (hj : j < L.length) (hp : parF L i = parF L j) (hd : D i = D j) : tokF L i ≠ tokF L j := by
  have ni := h.shp i (by omega)
  have nj := h.shp j hj
  intro q
  have c := cntF_more hij hp
  rw [ni.tk, nj.tk, hp, hd] at q
  have ki := ni.kd
  rw [hp, hd] at ki
  rw [List.getD_eq_getElem?_getD, List.getD_eq_getElem?_getD, List.getElem?_eq_getElem ki, List.getElem?_eq_getElem nj.kd] at q
  exact List.pairwise_iff_getElem.1 (h.nd _ nj.dm) _ _ ki nj.kd c q
theorem Strt.apart (h : Strt L V X e D) : ∀ j, j < L.length → ∀ i, i < j → lsF L V i ≠ lsF L V j := by
  intro j
  induction j using Nat.strongRecOn with
  | ind j ih =>
    intro hj i hij q
    obtain ⟨_, l1, a1, b1⟩ := h.way i (by omega)
    obtain ⟨_, l2, a2, b2⟩ := h.way j hj
    have hd : D i = D j := by rw [q] at l1; omega
    have ni := h.shp i (by omega)
    have nj := h.shp j hj
    rcases ni.up with ⟨p1, d0⟩ | ⟨p0, dd⟩
    · rcases nj.up with ⟨p2, _⟩ | ⟨_, dj⟩
      · rw [a1 p1, a2 p2] at q
        exact h.kids hij hj (by rw [p1, p2]) hd (by simpa using q)
      · omega
    · rcases nj.up with ⟨_, dj⟩ | ⟨p2, dj⟩
      · omega
      · rw [b1 p0, b2 p2] at q
        obtain ⟨q1, q2⟩ := List.append_inj' q rfl
        have mo := (h.mono (show i ≤ j by omega) hj).2
        have hjp := nj.hi
        by_cases c : parF L i = parF L j
        · exact h.kids hij hj c hd (by simpa using q2)
        · exact ih (parF L j).toNat (by omega) (by omega) (parF L i).toNat (by omega) q1
/-- what Clean makes of it -/
theorem Strt.clean (h : Strt L V X e D) {WS : List (List Int)} (hW : WS = Cl.wsD (Cl.rP L) (Cl.rT L) V L.length L.length) (root : Int) : WS.length = L.length ∧ ∀ i, i < L.length → Cl.rcT root WS (i + 1) = tokF L i ∧ Cl.rcP WS (i + 1) = parF L i + 1 := by
  have e1 : WS = (List.range L.length).map (lsF L V) := by
    rw [hW]
    refine Cl.straight (root := root) (fun i hi => (h.way i hi).1) (fun i j hij hj => h.apart j hj i hij) (fun i j hij hj => ?_)
    rw [(h.way i (by omega)).2.1, (h.way j hj).2.1]
    have := (h.mono (show i ≤ j by omega) hj).1
    omega
  have wa : ∀ i, i < L.length → Cl.wAt WS i = lsF L V i := fun i hi => by
    rw [e1]
    unfold Cl.wAt
    rw [List.getD_eq_getElem?_getD, List.getElem?_map, List.getElem?_range hi]
    rfl
  have hn : WS.Nodup := by
    rw [e1]
    unfold List.Nodup
    rw [List.pairwise_map]
    exact List.Pairwise.imp_of_mem (fun {a b} _ hb hlt => h.apart b (List.mem_range.1 hb) a hlt) List.pairwise_lt_range
  have hl : WS.length = L.length := by rw [e1]; simp
  refine ⟨hl, fun i hi => ?_⟩
  obtain ⟨_, l1, a1, b1⟩ := h.way i hi
  have n := h.shp i hi
  rcases n.up with ⟨p1, d0⟩ | ⟨p0, dd⟩
  · refine ⟨?_, ?_⟩
    · rw [Cl.rcT_at, wa i hi, a1 p1]; rfl
    · rw [Cl.rcP_one (by rw [wa i hi, l1, d0]; omega), p1]; rfl
  · have hp := n.hi
    refine ⟨?_, ?_⟩
    · rw [Cl.rcT_at, wa i hi, b1 p0]
      simp
    · rw [Cl.rcP_up (by rw [wa i hi, l1, dd]; omega), wa i hi, b1 p0, List.dropLast_concat, Cl.rpk_of hn (k := (parF L i).toNat) (by omega) (wa _ (by omega))]
      omega
end
end Go.Proofs.Ytjjnfpeeipainaa
namespace Go.Proofs.Ytjjnfpeeipainaa
open Go.RowKit
/-! The law MedusaClean. -/
theorem tpL_nodup (f : Nat → Int) (R : Nat) (k : Int) : (tpL sg f R k).Nodup := by
  unfold tpL List.Nodup
  rw [List.pairwise_map]
  refine List.Pairwise.imp_of_mem (fun {a b} ha hb hlt q => ?_) List.pairwise_lt_range
  have h1 := List.mem_range.1 ha
  have h2 := List.mem_range.1 hb
  have := sg_inj (f := f) (n := R) (i := a) (j := b) (by omega) (by omega) (by omega)
  omega
theorem tpL_bd (f : Nat → Int) (R : Nat) (k : Int) : ∀ x ∈ tpL sg f R k, 0 ≤ x ∧ x < (R : Int) := by
  intro x hx
  unfold tpL at hx
  obtain ⟨j, hj, rfl⟩ := List.mem_map.1 hx
  have := List.mem_range.1 hj
  have := sg_lt (f := f) (n := R) (k := j) (by omega)
  omega
theorem rd_pairs {w : World} {ao : Option Addr} {n cap : Nat} {R : List (Int × Int)} (h : RdA w ao 2 n cap (rwF R)) (hn : 0 < n) : ∃ b o, ao = some ⟨b, o, none⟩ ∧ ∀ i, i < n → w.cell? ⟨b, o + i * 2, none⟩ = some (.int .i64 (parF R i)) ∧ w.cell? ⟨b, o + i * 2 + 1, none⟩ = some (.int .i64 (tokF R i)) := by
  obtain ⟨b, o, e, hc⟩ := h.at_ hn
  refine ⟨b, o, e, fun i hi => ?_⟩
  have c0 := hc (i * 2) (by omega)
  have c1 := hc (i * 2 + 1) (by omega)
  rw [rwF_1] at c0
  rw [rwF_2, ← Nat.add_assoc] at c1
  exact ⟨c0, c1⟩
set_option maxRecDepth 100000 in
set_option maxHeartbeats 16000000 in
theorem mclean_law {w : World} {x : WtD} (hx : WtR w x) {ho : Option Addr} {n hc : Nat} {f : Nat → Int} (hh : RdA w ho 1 n hc (fun i => .int .i8 (f i))) (hg : ∀ i, i < n → -128 ≤ f i ∧ f i ≤ 127) {wo : Option Addr} {m wc : Nat} {v : Nat → Int} (hw : RdA w wo 1 m wc (fun i => .int .i64 (v i))) (hm8 : m * 8 ≤ 140737488355328) (root : Int) :
    Calls Try.prog 5 #[.agg #[.int .i64 x.V, .int .i64 x.W, .int .i64 x.H, .int .i64 x.K, .int .i64 x.L, .int .i64 x.D, .int .i64 x.N, .int .i64 x.M, .int .i64 x.E.R, .int .i64 x.E.C, .slice x.E.O x.E.n x.E.c, .slice x.tO x.tn x.tc, .slice x.yO x.yn x.yc, .slice x.F.O x.F.n x.F.c, .int .i64 x.Q.R, .int .i64 x.Q.C, .slice x.Q.O x.Q.n x.Q.c, .slice x.mO x.mn x.mc], .slice ho n hc, .slice wo m wc, .int .i64 root] w fun e w' => e = .returned (.bool true) ∧ Below w.heap.size w w' := by
  obtain ⟨T, hT⟩ : ∃ T, T = wtA x := ⟨_, rfl⟩
  have hr : (w.alloc (.cells #[.int .i64 x.V, .int .i64 x.W, .int .i64 x.H, .int .i64 x.K, .int .i64 x.L, .int .i64 x.D, .int .i64 x.N, .int .i64 x.M, .int .i64 x.E.R, .int .i64 x.E.C, .slice x.E.O x.E.n x.E.c, .slice x.tO x.tn x.tc, .slice x.yO x.yn x.yc, .slice x.F.O x.F.n x.F.c, .int .i64 x.Q.R, .int .i64 x.Q.C, .slice x.Q.O x.Q.n x.Q.c, .slice x.mO x.mn x.mc] 31)).rowIs w.heap.size 31 18 (wtc x) := World.rowIs_list w (wtL x) 31
  have f1 := fresh_alloc w (.cells #[.int .i64 x.V, .int .i64 x.W, .int .i64 x.H, .int .i64 x.K, .int .i64 x.L, .int .i64 x.D, .int .i64 x.N, .int .i64 x.M, .int .i64 x.E.R, .int .i64 x.E.C, .slice x.E.O x.E.n x.E.c, .slice x.tO x.tn x.tc, .slice x.yO x.yn x.yc, .slice x.F.O x.F.n x.F.c, .int .i64 x.Q.R, .int .i64 x.Q.C, .slice x.Q.O x.Q.n x.Q.c, .slice x.mO x.mn x.mc] 31)
  have SL : Hid ((Try.prog.info? 31).map (·.size) = some T.toList.length) := by rw [hT]; exact sizeW
  have HFX : Hid (∀ z, Calls Try.prog 8 #[] z fun e w' => e = .returned (.bool true) ∧ Below z.heap.size z w') := fun z => fixedM_any z
  have HT := hidd hT
  have HR := hidd hr
  have HX := hidd hx
  have HH := hidd hh
  have HG := hidd hg
  have HWS := hidd hw
  have hnc := hh.le
  have hnt := hh.top
  unfold maxLen at hnt
  clear hr hT hx hh hg hw
  by_cases hfit : x.may ∧ WtP x
  · obtain ⟨hm, hp⟩ := hfit
    have HMD : Hid (∀ z, Below w.heap.size w z → Calls Try.prog 9 #[.agg T] z fun e w' => ∃ y g, e = .returned (.tuple #[.pointer (some ⟨g, 0, none⟩), .bool true, .bool true]) ∧ Mdl w' g x y ∧ Below z.heap.size z w') := fun z hz => by rw [HT.out]; exact made_ok (HX.out.fresh hz) hm hp
    obtain ⟨R, C, hV, hW, hR1, hR2, hC1, hC2⟩ : ∃ R C : Nat, x.V = (R : Int) ∧ x.W = (C : Int) ∧ 1 ≤ R ∧ R ≤ 1048576 ∧ 1 ≤ C ∧ C ≤ 1048576 := by
      obtain ⟨⟨v0, v1⟩, ⟨w0, w1⟩, _⟩ := hm
      obtain ⟨R, hR⟩ := Int.eq_ofNat_of_zero_le (show 0 ≤ x.V by omega)
      obtain ⟨C, hC⟩ := Int.eq_ofNat_of_zero_le (show 0 ≤ x.W by omega)
      exact ⟨R, C, hR, hC, by omega, by omega, by omega, by omega⟩
    have HFT : Hid (∀ z, Below w.heap.size w z → Calls Try.prog 10 #[.agg T, .slice ho n hc] z fun e w' => ∃ u c, e = .returned (.slice u C c) ∧ Own w' z.heap.size 51 1 (.slice u C c) C (fun i => .int .i8 (fitF f n i)) ∧ Below z.heap.size z w') := fun z hz => by rw [HT.out]; exact fitv_any hW hC2 (HH.out.fresh hz)
    have hmb : x.mn ≤ 1048576 := (hp.b hm).M
    have HRT : Hid (∀ z, Below w.heap.size w z → Calls Try.prog 17 #[.slice wo m wc] z fun e w' => ∃ u c, e = .returned (.slice u m c) ∧ Own w' z.heap.size 3 1 (.slice u m c) m (fun i => .int .i64 (rgF v i)) ∧ Below z.heap.size z w') := fun z hz => right_any (by omega) (HWS.out.fresh hz)
    have HPR : Hid (∀ (z : World) (g : Nat) (y : WtD) (u : Option Addr) (c : Nat) (vo : Option Addr) (t vc : Nat) (vv : Nat → Int) (L : List (Int × Int)), L = prL sg x (fitF f n) R C vv t → Mdl z g x y → RdA z u 1 C c (fun i => .int .i8 (fitF f n i)) → RdA z vo 1 t vc (fun i => .int .i64 (vv i)) → (∀ i, i < t → 0 ≤ vv i) → Calls Try.prog 11 #[.pointer (some ⟨g, 0, none⟩), .slice u C c, .slice vo t vc] z fun e w' => ∃ lu lc, e = .returned (.tuple #[.slice lu L.length lc, .int .i64 0]) ∧ RdA w' lu 2 L.length lc (rwF L) ∧ Below z.heap.size z w') := by
      intro z g y u c vo t vc vv L hL hmd hrd hw hpos
      refine (propose_ok topC hmd (hmd.b hm hp) hV hW hR2 hp.m hmb hrd (fun i _ => fitF_bd HG.out i) hw hpos).mono ?_
      rintro e w' ⟨lu, lc, rfl, ho, f1⟩
      rw [← hL] at ho ⊢
      exact ⟨lu, lc, rfl, md_rda ho, f1⟩
    have HMN : Hid ((x.mn : Int) = x.M) := hp.mn
    obtain ⟨LA, HLA⟩ : ∃ LA, Hid (LA = prL sg x (fitF f n) R C (rgF v) m) := ⟨_, rfl⟩
    have hla : LA.length ≤ 96 := by rw [HLA.out]; exact grL_len _ _
    obtain ⟨a, HA⟩ : ∃ a, Hid (a = LA.length) := ⟨_, rfl⟩
    rw [← HA.out] at hla
    have HSTR : Hid ((∀ j, j < a → tokF LA j ≠ 0) → ∃ X e D, Strt LA x.V X e D) := fun hz => by
      obtain ⟨D, hD⟩ := shp_grL (fun i => tpL sg (fun r => mv (x.md i).f (fitF f n) C r) R (rgF v i)) (min x.mn m)
      refine ⟨_, _, D, ⟨by rw [HLA.out]; exact hD, fun d _ => tpL_nodup _ _ _, fun d _ y hy => ?_, fun i hi => hz i (by rw [HA.out]; exact hi)⟩⟩
      rw [hV]
      exact tpL_bd _ _ _ y hy
    have hVb : Cl.fits x.V := by unfold Cl.fits; omega
    clear hV hW hm hp
    go_enter Try.func5, Try.ntmps5
    go_upto_region 1 with fail
    have HR1 := hidd (HR.out)
    generalize hwa : w.alloc (.cells #[.int .i64 x.V, .int .i64 x.W, .int .i64 x.H, .int .i64 x.K, .int .i64 x.L, .int .i64 x.D, .int .i64 x.N, .int .i64 x.M, .int .i64 x.E.R, .int .i64 x.E.C, .slice x.E.O x.E.n x.E.c, .slice x.tO x.tn x.tc, .slice x.yO x.yn x.yc, .slice x.F.O x.F.n x.F.c, .int .i64 x.Q.R, .int .i64 x.Q.C, .slice x.Q.O x.Q.n x.Q.c, .slice x.mO x.mn x.mc] 31) = wa at *
    clear hwa HR
    go_wp2_with fail
    refine (HFX.out _).mono ?_
    rintro e w0 ⟨rfl, f0⟩
    have F0 := hidd (fresh_trans f1 f0)
    have HR0 := hidd (row_fresh HR1.out f0)
    have RG : Hid (w0.rangeAt w.heap.size 0 T.toList) := by rw [HT.out]; exact row_range HR0.out rfl
    clear f1 f0 HR1
    go_wp2_with (refine wpList_load_mid rfl 31 _ rfl w.heap.size 0 rfl T.toList _ RG.out Try.underlying31 rfl SL.out ?_)
    refine (HMD.out _ F0.out).mono ?_
    rintro e w1 ⟨y, g, rfl, hmd, f2⟩
    have F1 := hidd (fresh_trans F0.out f2)
    have HM1 := hidd hmd
    have HR1 := hidd (row_fresh HR0.out f2)
    replace RG : Hid (w1.rangeAt w.heap.size 0 T.toList) := by rw [HT.out]; exact row_range HR1.out rfl
    clear hmd f2 HMD HR0 F0
    go_wp2_with (refine wpList_load_mid rfl 31 _ rfl w.heap.size 0 rfl T.toList _ RG.out Try.underlying31 rfl SL.out ?_)
    refine (HFT.out _ F1.out).mono ?_
    rintro e w2 ⟨hu, hcc, rfl, ho2, f3⟩
    have F2 := hidd (fresh_trans F1.out f3)
    have HM2 := hidd (HM1.out.fresh f3)
    have HO2 := hidd (md_rda ho2)
    have HB2 := hidd (row_fresh HR1.out f3)
    clear ho2 f3 F1 HM1 HR1 HFT RG SL HFX HT HX HH HG
    go_wp2_with fail
    refine (HRT.out _ F2.out).mono ?_
    rintro e w3 ⟨ru, rc, rfl, hro, f4⟩
    have F3 := hidd (fresh_trans F2.out f4)
    have HM3 := hidd (HM2.out.fresh f4)
    have HO3 := hidd (HO2.out.fresh f4)
    have HB3 := hidd (row_fresh HB2.out f4)
    have HRD := hidd (md_rda hro)
    clear hro f4 HRT F2 HM2 HO2 HB2
    have HP1 := hidd (HPR.out w3 g y hu hcc ru m rc (rgF v) LA HLA.out HM3.out HO3.out HRD.out (fun i _ => rgF_pos v i))
    rw [← HA.out] at HP1
    go_wp2_with fail
    refine HP1.out.mono ?_
    rintro e w4 ⟨au, ac, rfl, hal, f5⟩
    have F4 := hidd (fresh_trans F3.out f5)
    have HB4 := hidd (row_fresh HB3.out f5)
    have HAL := hidd hal
    clear hal f5 HP1 F3 HM3 HO3 HB3 HRD HPR
    go_wp2
    go_loopw [15] (fun vi wr => ∃ i : Nat, i ≤ a ∧ vi = .int .i64 (i : Int) ∧ Hid (∀ j, j < i → tokF LA j ≠ 0) ∧ Hid (Below w4.heap.size w4 wr)) (fun vi _ => a - (intOf vi).toNat)
    case atStart => exact ⟨0, by omega, rfl, fun j hj => absurd hj (by omega), Below.refl _ _⟩
    case round =>
      obtain ⟨i, hi, rfl, HZ, HF⟩ := hrel
      have HTOT := hidd (F4.out.trans (HF.out.mono F4.out.size))
      by_cases hlt : i < a
      · obtain ⟨bl, ol, hu2, hcl⟩ := rd_pairs (HAL.out.fresh HF.out) (by omega)
        subst hu2
        obtain ⟨_, ct⟩ := hcl i hlt
        have g1 : (i : Int) < (a : Int) := by omega
        clear hcl
        obtain ⟨t, HTK⟩ : ∃ t, Hid (t = tokF LA i) := ⟨_, rfl⟩
        rw [← HTK.out] at ct
        by_cases c0 : t = 0
        · subst c0
          go_wp2
          go_ret
          exact ⟨rfl, HTOT.out⟩
        · have HNX : Hid (∀ j, j < i + 1 → tokF LA j ≠ 0) := fun j hj => by
            by_cases q : j = i
            · rw [q, ← HTK.out]; exact c0
            · exact HZ.out j (by omega)
          have dz : decide (t = 0) = false := decide_eq_false c0
          go_wp2
          go_roundw
          case rel => exact ⟨i + 1, by omega, by go_num, HNX, HF⟩
          case measure => simp [intOf]; omega
      · obtain rfl : i = a := by omega
        rename World => w5
        obtain ⟨X, e, D, hst⟩ := HSTR.out HZ.out
        obtain ⟨WS, hWS⟩ : ∃ WS, WS = Cl.wsD (Cl.rP LA) (Cl.rT LA) x.V LA.length LA.length := ⟨_, rfl⟩
        obtain ⟨hwl, hcl⟩ := hst.clean hWS root
        rw [← HA.out] at hwl hcl
        obtain ⟨q, HQ⟩ : ∃ q, Hid (q = min 32 (WS.length + 1)) := ⟨_, rfl⟩
        have HQQ : Hid (q = min 32 (i + 1)) := by show _ = _; rw [HQ.out, hwl]
        have HR5 := hidd (HAL.out.fresh HF.out)
        have HCLN : Hid (Calls Try.prog 18 #[.int .i64 root, .slice au i ac, .int .i64 x.V] w5 fun e w' => ∃ u c, e = .returned (.tuple #[.slice u q c, .int .i64 0]) ∧ Cl.RdA w' u 3 q c (Cl.nds (Cl.rcP WS) (Cl.rcT root WS) (Cl.rcD WS)) ∧ Below w5.heap.size w5 w') := by
          have h5 := HR5.out
          rw [HA.out] at h5 ⊢
          refine (Cl.clean_rc (root := root) (R := LA) (cap := ac) (ao := au) ⟨h5.le, h5.top, h5.at_⟩ (by rw [← HA.out]; exact hla) hVb hWS HQ.out).mono ?_
          rintro e w' ⟨u, c, e1, o, b⟩
          exact ⟨u, c, e1, Cl.own_rda o, b⟩
        have cV : w5.cell? ⟨w.heap.size, 0, none⟩ = some (.int .i64 x.V) := fresh_cell HF.out ((HB4.out.cell (i := 0) (by omega)).trans rfl)
        have HCC := hidd hcl
        have HPB : Hid (∀ k, k < i → -1 ≤ parF LA k ∧ parF LA k < 96) := fun k hk => by
          have nd := hst.shp k (by rw [← HA.out]; exact hk)
          have h1 := nd.lo
          have h2 := nd.hi
          omega
        clear hcl hwl hWS hst HSTR HZ
        go_upto_region 16 with (go_at_call 18; with_reducible refine HCLN.out.mono ?_; rintro e w6 ⟨tu, tc, rfl, ht, f6⟩; have HT6 := hidd ht; have F6 := hidd f6; clear ht f6 HCLN)
        have HTOT6 := hidd (HTOT.out.trans (F6.out.mono HTOT.out.size))
        by_cases big : 31 < i
        · have d31 : decide ((31 : Int) < (i : Int)) = true := decide_eq_true (by omega)
          have d31b : decide (31 < i) = true := decide_eq_true big
          obtain rfl : q = 32 := by have := HQQ.out; omega
          go_wp2
          go_ret
          exact ⟨rfl, HTOT6.out⟩
        · have d31 : decide ((31 : Int) < (i : Int)) = false := decide_eq_false (by omega)
          have d31b : decide (31 < i) = false := decide_eq_false big
          have HQ2 : Hid (q = i + 1) := by show _ = _; have := HQQ.out; omega
          have hq1 : i < q := by have := HQQ.out; omega
          clear HQ HQQ
          have HR6 := hidd (HR5.out.fresh F6.out)
          obtain ⟨bt, ot, hu3, hct⟩ := HT6.out.node (by omega)
          subst hu3
          have HCT := hidd hct
          clear hct
          have e1 : IntKind.i64.wrap ((i : Int) + 1) = (q : Int) := by rw [wrap_small _ (by omega) (by omega), HQ2.out]; rfl
          go_wp2
          clear e1
          go_loopw [18] (fun vi wr => ∃ k : Nat, k ≤ i ∧ vi = .int .i64 (k : Int) ∧ Hid (Below w6.heap.size w6 wr)) (fun vi _ => i - (intOf vi).toNat)
          case atStart => exact ⟨0, by omega, rfl, Below.refl _ _⟩
          case round =>
            obtain ⟨k, hk, rfl, HF7⟩ := hrel
            by_cases hlt2 : k < i
            · obtain ⟨bl, ol, hu2, hcl⟩ := rd_pairs (HR6.out.fresh HF7.out) (by omega)
              subst hu2
              obtain ⟨cp, ct⟩ := hcl k hlt2
              obtain ⟨n1, n2, _⟩ := HCT.out (k + 1) (by omega)
              have m1 := fresh_cell HF7.out n1
              have m2 := fresh_cell HF7.out n2
              rw [(HCC.out k hlt2).2] at m1
              rw [(HCC.out k hlt2).1] at m2
              have hp := HPB.out k hlt2
              generalize parF LA k = p at cp m1 hp
              generalize tokF LA k = t at ct m2
              have g1 : (k : Int) < (i : Int) := by omega
              have e2 : IntKind.i64.wrap ((k : Int) + 1) = (k : Int) + 1 := wrap_small _ (by omega) (by omega)
              have e3 : ((k : Int) + 1).toNat = k + 1 := by omega
              have e4 : (k : Int) + 1 < (q : Int) := by omega
              have e5 : (0 : Int) ≤ (k : Int) + 1 := by omega
              have e6 : IntKind.i64.wrap (p + 1) = p + 1 := by rw [IntKind.wrap_i64]; omega
              clear hcl n1 n2
              go_wp2
              go_quiet (fail)
              go_wp2
              go_roundw
              case rel => exact ⟨k + 1, by omega, by go_num, below_drewN HF7.out _⟩
              case measure => simp [intOf]; omega
            · obtain rfl : k = i := by omega
              obtain ⟨_, n2, _⟩ := HCT.out 0 (by omega)
              have m2 := fresh_cell HF7.out n2
              rw [show Cl.rcT root WS 0 = root from rfl, show ot + 0 * 3 + 1 = ot + 1 by omega] at m2
              have e7 : (0 : Int) < (q : Int) := by omega
              have e7b : 0 < q := by omega
              have HFIN := hidd (HTOT6.out.trans (HF7.out.mono HTOT6.out.size))
              clear n2
              go_wp2
              go_ret
              exact ⟨rfl, HFIN.out⟩
  · have hie : ∃ er, IsE x er ∧ er ≠ 0 := by
      by_cases hm : x.may
      · exact ⟨41, .inr (.inl ⟨hm, fun hp => hfit ⟨hm, hp⟩, rfl⟩), by decide⟩
      · exact ⟨40, .inl ⟨hm, rfl⟩, by decide⟩
    obtain ⟨er, he, h0⟩ := hie
    have HMD : Hid (∀ z, Below w.heap.size w z → Calls Try.prog 9 #[.agg T] z fun e w' => e = .returned (.tuple #[.pointer none, .bool false, .bool true]) ∧ Below z.heap.size z w') := fun z hz => by rw [HT.out]; exact made_bad (HX.out.fresh hz) he h0
    clear he h0 hfit
    go_enter Try.func5, Try.ntmps5
    go_upto_region 1 with fail
    have HR1 := hidd (HR.out)
    generalize hwa : w.alloc (.cells #[.int .i64 x.V, .int .i64 x.W, .int .i64 x.H, .int .i64 x.K, .int .i64 x.L, .int .i64 x.D, .int .i64 x.N, .int .i64 x.M, .int .i64 x.E.R, .int .i64 x.E.C, .slice x.E.O x.E.n x.E.c, .slice x.tO x.tn x.tc, .slice x.yO x.yn x.yc, .slice x.F.O x.F.n x.F.c, .int .i64 x.Q.R, .int .i64 x.Q.C, .slice x.Q.O x.Q.n x.Q.c, .slice x.mO x.mn x.mc] 31) = wa at *
    clear hwa HR
    go_wp2_with fail
    refine (HFX.out _).mono ?_
    rintro e w0 ⟨rfl, f0⟩
    have F0 := hidd (fresh_trans f1 f0)
    have HR0 := hidd (row_fresh HR1.out f0)
    have RG : Hid (w0.rangeAt w.heap.size 0 T.toList) := by rw [HT.out]; exact row_range HR0.out rfl
    clear f1 f0 HR1
    go_wp2_with (refine wpList_load_mid rfl 31 _ rfl w.heap.size 0 rfl T.toList _ RG.out Try.underlying31 rfl SL.out ?_)
    refine (HMD.out _ F0.out).mono ?_
    rintro e w1 ⟨rfl, f2⟩
    have F1 := hidd (fresh_trans F0.out f2)
    clear f2 HMD RG SL F0
    go_wp2
    go_ret
    exact ⟨rfl, F1.out⟩
end Go.Proofs.Ytjjnfpeeipainaa
namespace Go.Proofs.Ytjjnfpeeipainaa
open Go.ChangeShapes Go.WideShapes Go.ChangeAt Go.RowKit Go.Deep
/-! The law MedusaClean, from what came in. -/
set_option maxRecDepth 100000 in
theorem medusaClean_walk {H : Type} {enc : TypeId × Value → H} {base : Nat} {sp : Nat → Bool} {held : Bool} {r : Reach} {b0 : Nat} {v0 v1 v2 : Value} {d0 d1 d2 d3 : DataW H} {ps0 ps1 ps2 : List MemPlace} (root : Int) (W : World)
    (hval0 : Value.okWide Try.prog W r b0 31 v0) (h0 : DataW.Trod enc Try.prog W base sp held 31 v0 d0 ps0) (hval1 : Value.okWide Try.prog W r b0 24 v1) (h1 : DataW.Trod enc Try.prog W base sp held 24 v1 d1 ps1)
    (hval2 : Value.okWide Try.prog W r b0 37 v2) (h2 : DataW.Trod enc Try.prog W base sp held 37 v2 d2 ps2)
    (_ : -9223372036854775808 ≤ root) (_ : root ≤ 9223372036854775807) (hsz : (DataW.weightsEach Try.prog [31, 24, 37, 3] [d0, d1, d2, d3]).all (· ≤ reachBytes) = true) :
    Calls Try.prog 5 #[v0, v1, v2, .int .i64 root] W fun e w' => e = .returned (.bool true) ∧ Below W.heap.size W w' := by
  obtain ⟨x, rfl, hx⟩ := open_weights hval0 h0
  obtain ⟨l, rfl, hl⟩ := open_narrow hval1 h1
  obtain ⟨wo, m, wc, f, rfl, hw, _, hs⟩ := open_list hval2 h2
  have := list_sized (j := 2) hsz rfl rfl hs
  exact mclean_law hx hl.rd hl.bd hw (by omega) root
end Go.Proofs.Ytjjnfpeeipainaa
