import Derived.Test.YtilghknalbhacaaJAE
import Derived.Test.YtilghknalbhacaaJAB
namespace Go.Proofs.Ytilghknalbhacaa
open Go.RowKit
/-! take, body, narrow. -/
set_option maxRecDepth 20000 in
set_option maxHeartbeats 1600000 in
theorem take_any {w : World} {r bb : Nat} {B : List Int} {p : Nat} {bad : Bool} (h : Rdr w r bb B p bad) {n : Nat} (h0 : 0 < n) (hn : n ≤ 1048576) :
    Calls Try.prog 66 #[.pointer (some ⟨r, 0, none⟩), .int .i64 n] w fun e w' => ∃ ao c, e = .returned (.slice ao n c) ∧ RdA w' ao 1 n c (bV (tkB B p n)) ∧ (∀ b o, ao = some ⟨b, o, none⟩ → b = bb ∨ w.heap.size ≤ b) ∧ Rdr w' r bb B (tkP B p n) (bad || decide (B.length < p + n)) ∧ Chg w w' (fun b => b = r) := by
  obtain ⟨ao, c, hr, hx, hne⟩ := h.ex
  have hp := h.le
  have hlen : (B.drop p).length = B.length - p := List.length_drop
  have c0 : w.cell? ⟨r, 0, none⟩ = some (.slice ao (B.length - p) c) := hr.cell (i := 0) (by decide)
  have c1 : w.cell? ⟨r, 1, none⟩ = some (.bool bad) := hr.cell (i := 1) (by decide)
  have fz := hr.frozen
  have n1 := hx.le
  have n2 := hx.top
  unfold maxLen at n2
  rw [hlen] at n1
  obtain ⟨N, HN⟩ : ∃ N, Hid (N = B.length - p) := ⟨_, rfl⟩
  rw [← HN.out] at c0 n1
  have HR := hidd hr
  have HX := hidd hx
  have HNE := hidd hne
  have bB := h.byt
  have hbb := h.ne
  have hrl : r < w.heap.size := hr.lt
  by_cases hb : B.length < p + n
  · have hlt : N < n := by have := HN.out; omega
    have i1 : (N : Int) < (n : Int) := by omega
    have hmk := run_make_row' (P := Try.prog) 35 5 (.int .u8 0) 1 Try.underlying35 infoU8 rfl .i64 .i64 n (by omega) (by omega)
    have R0 : Hid (∀ z : World, (z.alloc (.cells (madeCells #[.int .u8 0] n) 5)).rowIs z.heap.size 5 n (fun _ => .int .u8 0)) := fun z => World.rowIs_made z (.int .u8 0) n 5
    have HG : Hid (Rdr (w.setCell ⟨r, 1, none⟩ (.bool true)) r bb B (tkP B p n) (bad || decide (B.length < p + n))) := by
      have e1 : tkP B p n = p := by unfold tkP; rw [if_neg (by omega)]
      rw [e1, decide_eq_true hb]
      have eb : (bad || true) = true := by cases bad <;> rfl
      rw [eb]
      refine ⟨⟨ao, c, ?_, ?_, HNE.out⟩, hbb, hp, bB⟩
      · refine (HR.out.set 1 _).congr (fun i hi => ?_)
        rcases i with _ | _ | i
        · rfl
        · simp
        · omega
      · exact RdA.chg HX.out (Chg.of_set w r 1 _) (fun b o e h0 => by rw [HNE.out b o e (by rw [hlen] at h0; exact h0)]; exact hbb)
    have HT : Hid (∀ j, j < n → bV (tkB B p n) j = .int .u8 0) := fun j hj => by
      unfold tkB bV
      rw [if_neg (by omega), List.getD_eq_getElem?_getD, List.getElem?_replicate, if_pos hj]
      rfl
    have HC := hidd (Chg.of_set w r 1 (.bool true))
    clear hr hx hne h hb
    go_enter Try.func66, Try.ntmps66
    go_wp2
    go_ret
    refine ⟨_, _, rfl, ⟨Nat.le_refl _, by unfold maxLen; omega, fun _ => ⟨_, 0, rfl, fun j hj => ?_⟩⟩, fun b o e => ?_, HG.out.fresh (fresh_alloc _ _), HC.out.post (fresh_alloc _ _)⟩
    · have hq := (R0.out (w.setCell ⟨r, 1, none⟩ (.bool true))).cell (i := j) (by omega)
      rw [World.size_setCell] at hq
      rw [Nat.zero_add, hq, HT.out j (by omega)]
    · cases e
      exact .inr (Nat.le_refl _)
  · have hge : n ≤ N := by have := HN.out; omega
    have i1 : ¬ (N : Int) < (n : Int) := by omega
    obtain ⟨b, o, rfl, hcc⟩ := hx.at_ (by rw [hlen]; have := HN.out; omega)
    have HBR : Hid (b = bb) := HNE.out b o rfl (by have := HN.out; omega)
    have HT : Hid (RdA w (some ⟨b, o, none⟩) 1 n c (bV (tkB B p n))) := by
      refine ⟨by omega, by unfold maxLen; omega, fun _ => ⟨b, o, rfl, fun j hj => ?_⟩⟩
      unfold tkB
      rw [if_pos (by omega), ← bV_take _ _ (by omega)]
      exact hcc j (by rw [hlen]; have := HN.out; omega)
    have HG : Hid (∀ g, (n < N → g = o + n) → Rdr (w.setCell ⟨r, 0, none⟩ (.slice (some ⟨b, g, none⟩) (N - n) (c - n))) r bb B (tkP B p n) (bad || decide (B.length < p + n))) := by
      intro g hg
      have e1 : tkP B p n = p + n := by unfold tkP; rw [if_pos (by omega)]
      rw [e1, decide_eq_false hb]
      have eb : (bad || false) = bad := by cases bad <;> rfl
      rw [eb]
      have hq := cell_alt HX.out (n := n) (by rw [hlen]; have := HN.out; omega) (g := g) (fun h => hg (by rw [hlen] at h; have := HN.out; omega))
      rw [List.drop_drop] at hq
      refine ⟨⟨some ⟨b, g, none⟩, c - n, ?_, ?_, fun b' o' e' _ => by cases e'; exact HBR.out⟩, hbb, by have := HN.out; omega, bB⟩
      · refine (HR.out.set 0 _).congr (fun i hi => ?_)
        rw [HN.out]
        rcases i with _ | _ | i
        · simp
          omega
        · simp
        · omega
      · exact RdA.chg hq (Chg.of_set w r 0 _) (fun b' o' e' _ => by cases e'; rw [HBR.out]; exact hbb)
    have HC : Hid (∀ v, Chg w (w.setCell ⟨r, 0, none⟩ v) (fun b => b = r)) := fun v => Chg.of_set w r 0 v
    have i0 : (0 : Int) ≤ (n : Int) := by omega
    have i2 : (n : Int) ≤ (c : Int) := by omega
    have i3 : (n : Int) ≤ (N : Int) := by omega
    clear hr hx hne h hb hcc
    by_cases hc : n = c
    · have hNn : N = n := by omega
      have i4 : (n : Int) = (c : Int) := by omega
      subst hc
      go_enter Try.func66, Try.ntmps66
      go_wp2
      go_ret
      refine ⟨_, _, rfl, HT.out.chg (HC.out _) (fun b' o' e' _ => by cases e'; rw [HBR.out]; exact hbb), fun b' o' e' => by cases e'; exact .inl HBR.out, ?_, HC.out _⟩
      have := HG.out o (fun h => absurd h (by omega))
      rw [show N - n = 0 by omega, Nat.sub_self] at this
      exact this
    · have i4 : ¬ (n : Int) = (c : Int) := by omega
      go_enter Try.func66, Try.ntmps66
      go_wp2
      go_ret
      exact ⟨_, _, rfl, HT.out.chg (HC.out _) (fun b' o' e' _ => by cases e'; rw [HBR.out]; exact hbb), fun b' o' e' => by cases e'; exact .inl HBR.out, HG.out (o + n) (fun _ => rfl), HC.out _⟩
theorem own_of_row {w : World} {base gb cap n : Nat} {e : TypeId} {F cs : Nat → Value} (hr : w.rowIs gb e cap F) (hb : base ≤ gb) (hn : n ≤ cap) (hc : cap ≤ maxLen) (hF : ∀ j, j < n → F j = cs j) : Own w base e 1 (.slice (some ⟨gb, 0, none⟩) n cap) n cs := by
  obtain ⟨c, h1, h2, h3⟩ := hr
  refine ⟨by simp, .inr ⟨gb, cap, c, rfl, hb, h1, hn, hc, by omega, ?_⟩⟩
  refine List.ext_getElem? (fun j => ?_)
  by_cases hj : j < n
  · rw [List.getElem?_take, if_pos (by omega), List.getElem?_map, List.getElem?_range (by omega), Option.map_some, Array.getElem?_toList, h3 j (by omega), hF j hj]
  · rw [List.getElem?_eq_none (by simp; omega), List.getElem?_eq_none (by simp; omega)]
/-- what a part of the reader leaves -/
structure RdP (w w' : World) (r bb : Nat) (B : List Int) (p : Nat) (bad : Bool) (M : List Int) (Sh : List Int → Prop) : Prop where
  ex : ∃ p' bad', RdS B p bad p' bad' M Sh ∧ Rdr w' r bb B p' bad'
  chg : Chg w w' (fun b => b = r)
/-- 8 bits with a sign -/
def i8v (x : Int) : Int := if x < 128 then x else x - 256
theorem wrap_i8 {x : Int} (h : 0 ≤ x ∧ x < 256) : IntKind.i8.wrap x = i8v x := by
  unfold i8v
  have e1 : IntKind.i8.wrap x = (if x % 256 ≥ 128 then x % 256 - 256 else x % 256) := by
    simp [IntKind.wrap, IntKind.bits, IntKind.signed]
  rw [e1]
  split <;> split <;> omega
theorem i8v_bd {x : Int} (h : 0 ≤ x ∧ x < 256) : -128 ≤ i8v x ∧ i8v x ≤ 127 ∧ i8v x % 256 = x := by
  unfold i8v
  split <;> omega
def nvF (M : List Int) : Nat → Int := fun i => i8v (M.getD i 0)
theorem nbL_nv {M : List Int} (h : Byt M) : nbL (nvF M) M.length = M := by
  refine List.ext_getElem? (fun i => ?_)
  by_cases hi : i < M.length
  · have e := List.getElem?_eq_getElem hi
    unfold nbL
    rw [List.getElem?_map, List.getElem?_range hi, e]
    show some (i8v (M.getD i 0) % 256) = some M[i]
    rw [(i8v_bd (h.at_ i)).2.2, List.getD_eq_getElem?_getD, e]
    rfl
  · rw [List.getElem?_eq_none (by rw [nbL_len]; omega), List.getElem?_eq_none (by omega)]
theorem Rdr.chg {w w' : World} {r bb : Nat} {B : List Int} {p : Nat} {bad : Bool} {T : Nat → Prop} (h : Rdr w r bb B p bad) (c : Chg w w' T) (hr : ¬ T r) (hb : ¬ T bb) : Rdr w' r bb B p bad := by
  obtain ⟨ao, c', h1, h2, h3⟩ := h.ex
  refine ⟨⟨ao, c', c.row h1 hr, RdA.chg h2 c (fun b o e h0 => ?_), h3⟩, h.ne, h.le, h.byt⟩
  rw [h3 b o e (by rw [List.length_drop] at h0; exact h0)]
  exact hb
set_option maxRecDepth 20000 in
set_option maxHeartbeats 1600000 in
theorem narrow_any {w : World} {r bb : Nat} {B : List Int} {p : Nat} {bad : Bool} (h : Rdr w r bb B p bad) (hbb : bb < w.heap.size) {n : Nat} (h0 : 0 < n) (hn : n ≤ 1048576) :
    Calls Try.prog 71 #[.pointer (some ⟨r, 0, none⟩), .int .i64 n] w fun e w' => e = .returned (.slice (some ⟨w.heap.size, 0, none⟩) n n) ∧ ∃ f, Own w' w.heap.size 84 1 (.slice (some ⟨w.heap.size, 0, none⟩) n n) n (fun i => .int .i8 (f i)) ∧ (∀ i, i < n → -128 ≤ f i ∧ f i ≤ 127) ∧ RdP w w' r bb B p bad (nbL f n) (fun M => M.length = n) := by
  have hmk := run_make_row' (P := Try.prog) 27 84 (.int .i8 0) 1 Try.underlying27 infoI8 rfl .i64 .i64 n (by omega) (by omega)
  have R0 := hidd (World.rowIs_made w (.int .i8 0) n 84)
  have f0 := fresh_alloc w (.cells (madeCells #[.int .i8 0] n) 84)
  have hrl := h.lt
  have HTK := hidd (take_any (h.fresh f0) h0 hn)
  have HS := hidd (RdS.take n bad h.le)
  have hby := tkB_byt h.byt p n
  obtain ⟨M, HM⟩ : ∃ M, Hid (M = tkB B p n) := ⟨_, rfl⟩
  rw [← HM.out] at HTK HS hby
  obtain ⟨p', HP⟩ : ∃ p', Hid (p' = tkP B p n) := ⟨_, rfl⟩
  obtain ⟨bad', HBD⟩ : ∃ b, Hid (b = (bad || decide (B.length < p + n))) := ⟨_, rfl⟩
  rw [← HP.out, ← HBD.out] at HTK HS
  have hML : M.length = n := by rw [HM.out, tkB_len]
  have HBY := hidd hby
  have HML := hidd hML
  have HF0 := hidd f0
  clear h hby hML
  go_enter Try.func71, Try.ntmps71
  go_upto_region 2 with fail
  generalize hz : (w.alloc (.cells (madeCells #[.int .i8 0] n) 84)) = z at *
  have hzs : z.heap.size = w.heap.size + 1 := by rw [← hz]; simp
  clear hmk hz
  go_wp2_with (go_at_call 66; refine HTK.out.mono ?_; rintro e w2 ⟨ao, c, rfl, hrd, hao, hrr, hcc⟩)
  have hs2 := hcc.size
  obtain ⟨b, o, hab, hcl⟩ := hrd.one h0
  subst hab
  have hbg : b ≠ w.heap.size := by
    rcases hao b o rfl with e | e
    · omega
    · omega
  have n1 := hrd.le
  have n2 := hrd.top
  unfold maxLen at n2
  have HRW : Hid (w2.rowIs w.heap.size 84 n (fun _ => .int .i8 0)) := hcc.row R0.out (by omega)
  have HCL := hidd hcl
  have HRR := hidd hrr
  have HCC := hidd hcc
  clear hrd hao hrr hcc hcl HTK R0
  go_loopw [14] (fun i wr => ∃ k : Nat, k ≤ n ∧ i = .int .i64 k ∧ Hid (wr.rowIs w.heap.size 84 n (fun j => .int .i8 (if j < k then nvF M j else 0))) ∧ Hid (Chg w2 wr (fun q => q = w.heap.size))) (fun i _ => n - (intOf i).toNat)
  case atStart => exact ⟨0, by omega, rfl, HRW.out.congr (fun j _ => by rw [if_neg (by omega)]), Chg.refl _ _⟩
  case round =>
    clear HRW
    obtain ⟨k, hk, rfl, HW, HC⟩ := hrel
    by_cases hlt : k < n
    · have i1 : (k : Int) < (n : Int) := by omega
      have cb : wr.cell? ⟨b, o + k, none⟩ = some (.int .u8 (M.getD k 0)) := HC.out.cell (HCL.out k hlt) hbg
      have cg : wr.cell? ⟨w.heap.size, k, none⟩ = some (.int .i8 (if k < k then nvF M k else 0)) := HW.out.cell (by omega)
      have fg := HW.out.frozen
      obtain ⟨x, hx⟩ : ∃ x, x = M.getD k 0 := ⟨_, rfl⟩
      have hwr := wrap_i8 (HBY.out.at_ k)
      rw [← hx] at cb hwr
      have HX : Hid (i8v x = nvF M k) := by rw [hx]; rfl
      clear hx
      have HW2 : Hid ((wr.setCell ⟨w.heap.size, k, none⟩ (.int .i8 (i8v x))).rowIs w.heap.size 84 n (fun j => .int .i8 (if j < k + 1 then nvF M j else 0))) := by
        refine (HW.out.set k _).congr (fun j _ => ?_)
        by_cases e : j = k
        · subst e
          rw [if_pos rfl, if_pos (by omega), HX.out]
        · rw [if_neg e]
          by_cases e2 : j < k
          · rw [if_pos e2, if_pos (by omega)]
          · rw [if_neg e2, if_neg (by omega)]
      have HC2 : Hid (Chg w2 (wr.setCell ⟨w.heap.size, k, none⟩ (.int .i8 (i8v x))) (fun q => q = w.heap.size)) := HC.out.trans (Chg.of_set wr w.heap.size k _) (fun _ _ e => e)
      clear HW HC HX
      go_wp2
      go_roundw
      case rel => exact ⟨k + 1, by omega, by go_num, HW2, HC2⟩
      case measure => simp [intOf]; omega
    · have i1 : ¬ (k : Int) < (n : Int) := by omega
      have HWn : Hid (wr.rowIs w.heap.size 84 n (fun j => .int .i8 (nvF M j))) := HW.out.congr (fun j hj => by rw [if_pos (by omega)])
      clear HW
      go_wp2
      go_ret
      have c1 : Chg w w2 (fun q => q = r) := Chg.pre HF0.out HCC.out
      refine ⟨rfl, nvF M, own_of_row HWn.out (Nat.le_refl _) (Nat.le_refl _) (by unfold maxLen; omega) (fun _ _ => rfl), fun i _ => ?_, ⟨p', bad', ?_, HRR.out.chg HC.out (by omega) (by omega)⟩, c1.trans HC.out (fun q hq e => by omega)⟩
      · have := i8v_bd (HBY.out.at_ i)
        exact ⟨this.1, this.2.1⟩
      · refine HS.out.imp ?_ (fun _ => Iff.rfl)
        have := nbL_nv HBY.out
        rw [HML.out] at this
        exact this.symm
end Go.Proofs.Ytilghknalbhacaa
namespace Go.Proofs.Ytilghknalbhacaa
open Go.RowKit
/-! body; a header that is met. -/
/-- a section's bytes: of this letter, with a body of n bytes -/
def SecS (c : Int) (n : Nat) : List Int → Prop := fun X => ∃ M, M.length = n ∧ X = secL c M
theorem hdr_byt {c : Int} (hc : 0 ≤ c ∧ c < 256) (n : Nat) : Byt (c :: num n 4) := fun x hx => by
  rcases List.mem_cons.1 hx with rfl | hx
  · exact hc
  · exact num_byt _ _ x hx
theorem sec_two {B : List Int} {p p1 p2 : Nat} {b b1 b2 : Bool} {c : Int} {n : Nat} {M : List Int} {S : List Int → Prop} (h : RdS B p b p1 b1 (c :: num n 4) (fun X => X = c :: num n 4)) (k : RdS B p1 b1 p2 b2 M S) (hS : ∀ X, S X → X.length = n) :
    RdS B p b p2 b2 (secL c M) (fun X => ∃ Y, S Y ∧ X = secL c Y) := by
  have hM := hS M k.sh
  refine (h.trans k).imp (by unfold secL; rw [hM]; rfl) (fun X => ⟨?_, ?_⟩)
  · rintro ⟨Y, hY, rfl⟩
    exact ⟨c :: num n 4, Y, by unfold secL; rw [hS Y hY]; rfl, rfl, hY⟩
  · rintro ⟨_, Y, rfl, rfl, hY⟩
    exact ⟨Y, hY, by unfold secL; rw [hS Y hY]; rfl⟩
theorem RdP.fresh1 {w w1 w' : World} {r bb : Nat} {B : List Int} {p : Nat} {bad : Bool} {M : List Int} {S : List Int → Prop} (f : Below w.heap.size w w1) (h : RdP w1 w' r bb B p bad M S) : RdP w w' r bb B p bad M S := ⟨h.ex, Chg.pre f h.chg⟩
theorem RdP.post {w w' w2 : World} {r bb : Nat} {B : List Int} {p : Nat} {bad : Bool} {M : List Int} {S : List Int → Prop} (h : RdP w w' r bb B p bad M S) (f : Below w'.heap.size w' w2) : RdP w w2 r bb B p bad M S := by
  obtain ⟨p', bad', h1, h2⟩ := h.ex
  exact ⟨⟨p', bad', h1, h2.fresh f⟩, h.chg.post f⟩
/-- r.meet(header(letter, n)), both calls -/
theorem meethdr {w z : World} {r bb : Nat} {B : List Int} {p : Nat} {bad : Bool} (h : Rdr w r bb B p bad) (f : Below w.heap.size w z) {c : Int} (hc : 0 ≤ c ∧ c < 256) {n : Nat} {v : Value} (hv : OwB z w.heap.size v (c :: num n 4)) :
    Calls Try.prog 35 #[.pointer (some ⟨r, 0, none⟩), v] z fun e w' => e = .returned (.tuple #[]) ∧ RdP w w' r bb B p bad (c :: num n 4) (fun X => X = c :: num n 4) := by
  obtain ⟨u, k, rfl, hr⟩ := hv.rd
  have hlen : (c :: num n 4).length = 5 := by simp [num_len]
  refine (meet_any (h.fresh f) hr (hdr_byt hc n) (by rw [hlen]; decide)).mono ?_
  rintro e w' ⟨rfl, h1, h2⟩
  exact ⟨rfl, ⟨_, _, RdS.met bad h.le, h1⟩, Chg.pre f h2⟩
set_option maxRecDepth 20000 in
set_option maxHeartbeats 1600000 in
theorem body_any {w : World} {r bb : Nat} {B : List Int} {p : Nat} {bad : Bool} (h : Rdr w r bb B p bad) {c : Int} (hc : 0 ≤ c ∧ c < 256) {n : Nat} (h0 : 0 < n) (hn : n ≤ 1048576) :
    Calls Try.prog 37 #[.pointer (some ⟨r, 0, none⟩), .int .u8 c, .int .i64 n] w fun e w' => ∃ ao k, e = .returned (.slice ao n k) ∧ ∃ M, M.length = n ∧ Byt M ∧ RdA w' ao 1 n k (bV M) ∧ RdP w w' r bb B p bad (secL c M) (SecS c n) := by
  have HH := hidd (header_any w (c := c) (m := n) (by omega))
  have HR := hidd h
  have HBY := hidd h.byt
  clear h
  go_enter Try.func37, Try.ntmps37
  go_upto_region 1 with fail
  go_upto_region 2 with (first
    | (go_at_call 61; refine HH.out.mono ?_; rintro e w1 ⟨v, rfl, hv, f1⟩; have HM := hidd (meethdr HR.out f1 hc hv); have hs1 := f1.size; clear hv f1 HH)
    | (go_at_call 35; refine HM.out.mono ?_; rintro e w2 ⟨rfl, hp2⟩))
  obtain ⟨p2, bad2, hs2, hr2⟩ := hp2.ex
  have HT := hidd (take_any hr2 h0 hn)
  have HS2 := hidd hs2
  have HC2 := hidd hp2.chg
  have HBT := hidd (tkB_byt HBY.out p2 n)
  have HTS := hidd (RdS.take n bad2 hr2.le)
  clear hp2 hs2 hr2
  go_wp2_with (go_at_call 66; refine HT.out.mono ?_; rintro e w3 ⟨ao, k, rfl, hrd, _, hrr, hcc⟩)
  have HFIN : Hid (∃ M, M.length = n ∧ Byt M ∧ RdA w3 ao 1 n k (bV M) ∧ RdP w w3 r bb B p bad (secL c M) (SecS c n)) := by
    refine ⟨_, tkB_len B p2 n, HBT.out, hrd, ⟨_, _, ?_, hrr⟩, HC2.out.trans hcc (fun _ _ e => e)⟩
    exact (sec_two HS2.out HTS.out (fun _ e => e))
  clear hrd hrr hcc
  go_ret
  exact ⟨_, _, rfl, HFIN.out⟩
end Go.Proofs.Ytilghknalbhacaa
namespace Go.Proofs.Ytilghknalbhacaa
open Go.RowKit
/-! Matrices: hasShape, Check, MatVec, Dot. -/
def shp (R C : Int) (n : Nat) : Bool := decide (1 ≤ R) && (decide (1 ≤ C) && (((n : Int) % C == 0) && ((n : Int) / C == R)))
set_option maxHeartbeats 1000000 in
theorem hasShape_any (R C : Int) (ao : Option Addr) (n cap : Nat) (w : World) (hn : n ≤ 9223372036854775807) :
    Calls Try.prog 103 #[.agg #[.int .i64 R, .int .i64 C, .slice ao n cap]] w fun e w' => e = .returned (.bool (shp R C n)) ∧ Below w.heap.size w w' := by
  by_cases r : R < 1
  · have e : shp R C n = false := by unfold shp; simp; omega
    rw [e]
    go_enter Try.func103, Try.ntmps103
    go_wp2
    go_ret
    exact ⟨rfl, fresh_alloc _ _⟩
  · by_cases c : C < 1
    · have e : shp R C n = false := by unfold shp; simp; omega
      rw [e]
      go_enter Try.func103, Try.ntmps103
      go_wp2
      go_ret
      exact ⟨rfl, fresh_alloc _ _⟩
    · obtain ⟨c', rfl⟩ := Int.eq_ofNat_of_zero_le (show 0 ≤ C by omega)
      have hz : ¬ (c' : Int) = 0 := by omega
      have e1 : (n : Int).tmod (c' : Int) = (n : Int) % (c' : Int) := rfl
      have e2 : (n : Int).tdiv (c' : Int) = (n : Int) / (c' : Int) := rfl
      have hq := Int.ediv_nonneg (show 0 ≤ (n : Int) by omega) (show 0 ≤ (c' : Int) by omega)
      have hq2 := Int.ediv_le_self (c' : Int) (show 0 ≤ (n : Int) by omega)
      cases hm : ((n : Int) % (c' : Int) == 0) with
      | false =>
        have e : shp R c' n = false := by unfold shp; rw [hm]; simp
        rw [e]
        go_enter Try.func103, Try.ntmps103
        go_wp2
        go_quiet (fail)
        go_wp2
        go_ret
        exact ⟨rfl, below_drewN (fresh_alloc _ _) _⟩
      | true =>
        have e : shp R c' n = ((n : Int) / c' == R) := by unfold shp; rw [hm, decide_eq_true (by omega), decide_eq_true (by omega)]; simp
        rw [e]
        clear e
        go_enter Try.func103, Try.ntmps103
        go_wp2
        go_quiet (fail)
        go_wp2
        go_ret
        exact ⟨rfl, below_drewN (fresh_alloc _ _) _⟩
set_option maxHeartbeats 1000000 in
theorem check_ok {w : World} {R C : Int} {ao : Option Addr} {n cap : Nat} {f : Nat → Int} (ha : RdA w ao 1 n cap (fun i => .int .i8 (f i))) (hs : shp R C n = true) (hf : ∀ i, i < n → -127 ≤ f i) :
    Calls Try.prog 99 #[.agg #[.int .i64 R, .int .i64 C, .slice ao n cap]] w fun e w' => e = .returned (.int .i64 0) ∧ Below w.heap.size w w' := by
  have hn : n ≤ 9223372036854775807 := by have := ha.le; have := ha.top; unfold maxLen at this; omega
  go_enter Try.func99, Try.ntmps99
  go_wp2_with fail
  refine (hasShape_any R C ao n cap _ hn).mono ?_
  rintro e w' ⟨rfl, hb⟩
  have HF := fresh_trans (fresh_alloc w _) hb
  have c0 : (w.alloc (.cells #[.int .i64 R, .int .i64 C, .slice ao n cap] 29)).cell? ⟨w.heap.size, 2, none⟩ = some (.slice ao n cap) := by simp
  have c1 := fresh_cell hb c0
  clear c0 hb
  rw [hs]
  go_wp2
  go_loop [11] (fun i => ∃ k : Nat, k ≤ n ∧ i = .int .i64 k) (fun i => n - (intOf i).toNat)
  case atStart => exact ⟨0, by omega, rfl⟩
  case round =>
    obtain ⟨k, hk, rfl⟩ := hrel
    by_cases hlt : k < n
    · obtain ⟨b1, o1, rfl, h1⟩ := (ha.fresh HF).one (by omega)
      have c1 := h1 k hlt
      have d1 : ¬ f k < -127 := by have := hf k hlt; omega
      clear h1
      go_wp2
      go_round
      case rel => exact ⟨k + 1, by omega, by go_num⟩
      case measure => simp [intOf]; omega
    · go_wp2
      go_ret
      exact ⟨rfl, HF⟩
set_option maxHeartbeats 1000000 in
theorem check_bad {w : World} {R C : Int} {ao : Option Addr} {n cap : Nat} {f : Nat → Int} (ha : RdA w ao 1 n cap (fun i => .int .i8 (f i))) (hs : shp R C n = false ∨ ∃ i, i < n ∧ f i < -127) :
    Calls Try.prog 99 #[.agg #[.int .i64 R, .int .i64 C, .slice ao n cap]] w fun e w' => e = .returned (.int .i64 30) ∧ Below w.heap.size w w' := by
  have hn : n ≤ 9223372036854775807 := by have := ha.le; have := ha.top; unfold maxLen at this; omega
  go_enter Try.func99, Try.ntmps99
  go_wp2_with fail
  refine (hasShape_any R C ao n cap _ hn).mono ?_
  rintro e w' ⟨rfl, hb⟩
  have HF := fresh_trans (fresh_alloc w _) hb
  have c0 : (w.alloc (.cells #[.int .i64 R, .int .i64 C, .slice ao n cap] 29)).cell? ⟨w.heap.size, 2, none⟩ = some (.slice ao n cap) := by simp
  have c1 := fresh_cell hb c0
  clear c0 hb
  cases hsb : shp R C n with
  | false =>
    go_wp2
    go_ret
    exact ⟨rfl, HF⟩
  | true =>
    have hs2 : ∃ i, i < n ∧ f i < -127 := by rcases hs with h | h; · rw [hsb] at h; cases h
                                             · exact h
    clear hs hsb
    have HS := hidd hs2
    clear hs2
    go_wp2
    go_loop [11] (fun i => ∃ k : Nat, k ≤ n ∧ i = .int .i64 k ∧ Hid (∀ j, j < k → -127 ≤ f j)) (fun i => n - (intOf i).toNat)
    case atStart => exact ⟨0, by omega, rfl, fun j hj => by omega⟩
    case round =>
      obtain ⟨k, hk, rfl, hall⟩ := hrel
      by_cases hlt : k < n
      · obtain ⟨b1, o1, rfl, h1⟩ := (ha.fresh HF).one (by omega)
        have c1 := h1 k hlt
        clear h1
        by_cases d1 : f k < -127
        · go_wp2
          go_ret
          exact ⟨rfl, HF⟩
        · go_wp2
          go_round
          case rel => exact ⟨k + 1, by omega, by go_num, fun j hj => by by_cases e : j = k; · rw [e]; omega
                                                                        · exact hall.out j (by omega)⟩
          case measure => simp [intOf]; omega
      · exfalso
        obtain ⟨i, hi, hlow⟩ := HS.out
        have := hall.out i (by omega)
        omega
theorem RdA.cut {w : World} {b off n cap : Nat} {cs : Nat → Value} (h : RdA w (some ⟨b, off, none⟩) 1 n cap cs) {lo m : Nat} (hh : lo + m ≤ n) : RdA w (some ⟨b, off + lo, none⟩) 1 m (cap - lo) (fun j => cs (lo + j)) := by
  refine ⟨by have := h.le; omega, by have := h.top; omega, fun hm => ⟨b, off + lo, rfl, fun j hj => ?_⟩⟩
  obtain ⟨b', o', e, hc⟩ := h.at_ (by omega)
  simp only [Option.some.injEq, Addr.mk.injEq, and_true] at e
  obtain ⟨rfl, rfl⟩ := e
  rw [Nat.add_assoc]
  exact hc _ (by omega)
end Go.Proofs.Ytilghknalbhacaa
