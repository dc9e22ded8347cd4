import Derived.Test.YtilghknalbhacaaEnB
import Derived.Test.YtilghknalbhacaaRows
import Derived.Test.YtilghknalbhacaaJAA
namespace Go.Proofs.Ytilghknalbhacaa
open Go.RowKit
/-! Sections. -/
theorem own_new1 (w : World) (e : TypeId) (x : Value) (base : Nat) (hb : base ≤ w.heap.size) : Own (w.alloc (.cells #[x] e)) base e 1 (.slice (some ⟨w.heap.size, 0, none⟩) 1 1) 1 (fun _ => x) := by
  refine ⟨by simp, .inr ⟨w.heap.size, 1, #[x], rfl, hb, ?_, Nat.le_refl _, by unfold maxLen; omega, by simp, by simp⟩⟩
  show (w.heap.push _)[w.heap.size]? = _
  simp
theorem Own.rdaE {w : World} {base : Nat} {e : TypeId} {sz n c : Nat} {u : Option Addr} {cs : Nat → Value} (h : Own w base e sz (.slice u n c) n cs) : RdA w u sz n c cs := by
  obtain ⟨ao, cap, e1, hr⟩ := h.rd
  injection e1 with e2 _ e3
  subst e2 e3
  exact hr
theorem OwB.slice {w : World} {b : Nat} {v : Value} {M : List Int} (h : OwB w b v M) (h0 : 0 < M.length) : ∃ g c, v = .slice (some ⟨g, 0, none⟩) M.length c ∧ M.length ≤ c ∧ c ≤ 9223372036854775807 := by
  rcases h.2 with ⟨_, h1⟩ | ⟨g, c, cur, e, _, _, h1, h2, _, _⟩
  · omega
  · unfold maxLen at h2
    exact ⟨g, c, e, h1, by omega⟩
/-- a section -/
def secL (c : Int) (M : List Int) : List Int := c :: (num M.length 4 ++ M)
theorem secL_len (c : Int) (M : List Int) : (secL c M).length = M.length + 5 := by unfold secL; simp [num_len]; omega
theorem secL_byt {c : Int} (h : 0 ≤ c ∧ c < 256) {M : List Int} (k : Byt M) : Byt (secL c M) := fun x hx => by
  rcases List.mem_cons.1 hx with rfl | e
  · exact h
  · exact (num_byt _ _).app k x e
theorem secL_eq (c : Int) (M : List Int) : secL c M = (c :: num M.length 4) ++ M := rfl
set_option maxRecDepth 20000 in
set_option maxHeartbeats 4000000 in
theorem header_any (w : World) {c : Int} {m : Nat} (hm : m ≤ 1073741824) :
    Calls Try.prog 61 #[.int .u8 c, .int .i64 (m : Int)] w fun e w' => ∃ v', e = .returned v' ∧ OwB w' w.heap.size v' (c :: num m 4) ∧ Below w.heap.size w w' := by
  have fa := fresh_alloc w (.cells #[.int .u8 c] 5)
  have HO : Hid (OwB (w.alloc (.cells #[.int .u8 c] 5)) w.heap.size (.slice (some ⟨w.heap.size, 0, none⟩) 1 1) [c]) := (own_new1 w 5 (.int .u8 c) w.heap.size (Nat.le_refl _)).congr (fun j hj => by
    obtain rfl : j = 0 := by omega
    rfl)
  have HL := hidd (little_any HO.out (Nat.le_trans (Nat.le_refl _) fa.size) (by show 1 ≤ 1073741824; decide) (n := m) (by omega) (k := 4) (by decide))
  have HFA := hidd fa
  clear fa
  go_enter Try.func61, Try.ntmps61
  go_wp2_with fail
  refine HL.out.mono ?_
  rintro e w1 ⟨v', rfl, ho, ha⟩
  have HB := hidd (ha.below HFA.out HO.out (Nat.le_refl _) HFA.out.size)
  have HO1 := hidd ho
  clear ho ha HL HO HFA
  obtain ⟨p, uc, rfl, _⟩ := HO1.out.rd
  go_wp2
  go_ret
  exact ⟨_, rfl, HO1.out, HB.out⟩
/-- a whole list appended -/
theorem cells_of {w : World} {base : Nat} {g m c : Nat} {L M : List Int} {n : Nat} (hn : n = L.length) (hm : M.length = m) {N : List Int} (hN : N = L ++ M) {X : List Int} (h : Own w base 5 1 (.slice (some ⟨g, 0, none⟩) m c) m (bV M)) : ∀ j, j < m * 1 → w.cell? ⟨g, j, none⟩ = some (bV (N ++ X) (n * 1 + j)) := fun j hj => by
  obtain ⟨b, off, e, hc⟩ := (Own.rdaE h).at_ (by omega)
  injection e with e
  injection e with e1 e2
  subst e1 e2
  have h1 := hc j hj
  rw [Nat.zero_add] at h1
  rw [h1, Nat.mul_one, hn, hN, ← bV_pre (L ++ M) X (by rw [List.length_append]; omega), bV_suf]
set_option maxRecDepth 20000 in
set_option maxHeartbeats 4000000 in
theorem section_any {w : World} {b0 : Nat} {v : Value} {L : List Int} (hv : OwB w b0 v L) (hb : b0 ≤ w.heap.size) (hL : L.length ≤ 536870912) (c : Int) {b1 : Nat} {bv : Value} {M : List Int} (hM : OwB w b1 bv M) (hM0 : 0 < M.length) (hM1 : M.length ≤ 536870912) (hoff : Off v bv) :
    Calls Try.prog 29 #[v, .int .u8 c, bv] w fun e w' => ∃ v', e = .returned v' ∧ OwB w' b0 v' (L ++ secL c M) ∧ App w w' v v' := by
  have HV := hidd hv
  have HM := hidd hM
  have HOF := hidd hoff
  obtain ⟨p, uc, rfl, _⟩ := hv.rd
  obtain ⟨mg, mc, rfl, hmc, hmt⟩ := hM.slice hM0
  have HH := hidd (header_any w (c := c) (m := M.length) (by omega))
  clear hv hM hoff
  go_enter Try.func29, Try.ntmps29
  go_wp2_with fail
  refine HH.out.mono ?_
  rintro e w1 ⟨hv, rfl, hho, f1⟩
  have HHO := hidd hho
  have hhl : (c :: num M.length 4).length = 5 := by simp [num_len]
  obtain ⟨hg, hc, rfl, hhc, hht⟩ := hho.slice (by omega)
  rw [hhl] at hhc
  have HO1 : Hid (Own w1 b0 5 1 (.slice p L.length uc) L.length (bV (L ++ secL c M))) := (HV.out.kept f1).congr (fun j hj => bV_pre L _ (by omega))
  have HA1 := hidd (App.of f1 (.slice p L.length uc))
  have HHO2 : Hid (Own w1 w.heap.size 5 1 (.slice (some ⟨hg, 0, none⟩) 5 hc) 5 (bV (c :: num M.length 4))) := by have h9 := HHO.out; unfold OwB at h9; rw [hhl] at h9; exact h9
  have HC1 : Hid (∀ j, j < 5 * 1 → w1.cell? ⟨hg, j, none⟩ = some (bV (L ++ secL c M) (L.length * 1 + j))) := by
    have h9 := cells_of (L := L) (n := L.length) rfl hhl (N := L ++ (c :: num M.length 4)) rfl (X := M) HHO2.out
    rw [List.append_assoc, ← secL_eq] at h9
    exact h9
  have HM1 := hidd (Own.kept HM.out f1)
  have HS1 : Hid (b0 ≤ w1.heap.size) := Nat.le_trans hb f1.size
  rw [hhl]
  clear f1 hho HHO HH
  go_wp2_with (at_builtin; refine wpList_app w1 rfl _ _ 35 rfl b0 5 (.int .u8 0) 1 1 Try.underlying35 infoU8 rfl (by decide) _ L.length (bV (L ++ secL c M)) rfl HO1.out hg 5 hc rfl HC1.out (fun _ _ => rfl) (by decide) (by unfold maxLen; omega) (by omega) HS1.out ?_)
  rintro v2 w2 ho2 ha2
  have HO2 := hidd ho2
  have HA2 := hidd (HA1.out.trans ha2)
  obtain ⟨hM2, hof2⟩ := ha2.off_kept HM1.out HOF.out
  have HC2 : Hid (∀ j, j < M.length * 1 → w2.cell? ⟨mg, j, none⟩ = some (bV (L ++ secL c M) ((L.length + 5) * 1 + j))) := by
    have h9 := cells_of (L := L ++ (c :: num M.length 4)) (M := M) (n := L.length + 5) (by rw [List.length_append, hhl]) rfl (N := L ++ secL c M) (by rw [secL_eq, List.append_assoc]) (X := []) hM2
    rw [List.append_nil] at h9
    exact h9
  have HS2 : Hid (b0 ≤ w2.heap.size) := Nat.le_trans HS1.out ha2.grown.size
  obtain ⟨p2, uc2, rfl, _⟩ := ho2.rd
  clear ho2 ha2 hM2 hof2 HO1 HA1 HC1 HHO2 HM1 HS1
  go_wp2_with (at_builtin; refine wpList_app w2 rfl _ _ 35 rfl b0 5 (.int .u8 0) 1 1 Try.underlying35 infoU8 rfl (by decide) _ (L.length + 5) (bV (L ++ secL c M)) rfl HO2.out mg M.length mc rfl HC2.out (fun _ _ => rfl) hM0 (by unfold maxLen; omega) (by omega) HS2.out ?_)
  rintro v3 w3 ho3 ha3
  have HO3 := hidd ho3
  have HA3 := hidd (HA2.out.trans ha3)
  obtain ⟨p3, uc3, rfl, _⟩ := ho3.rd
  clear ho3 ha3 HO2 HA2 HC2 HS2
  go_wp2
  go_ret
  exact ⟨_, rfl, by have h9 := HO3.out; unfold OwB; rw [List.length_append, secL_len, show L.length + (M.length + 5) = L.length + 5 + M.length by omega]; exact h9, HA3.out⟩
end Go.Proofs.Ytilghknalbhacaa
namespace Go.Proofs.Ytilghknalbhacaa
open Go.RowKit
/-! Reading bytes from the front, as data. -/
/-- what a part of the reader does: M is what it read; Sh says which bytes it takes -/
structure RdS (B : List Int) (p : Nat) (bad : Bool) (p' : Nat) (bad' : Bool) (M : List Int) (Sh : List Int → Prop) : Prop where
  le : p' ≤ B.length
  good : bad' = false → bad = false ∧ B.drop p = M ++ B.drop p'
  all : ∀ M', Sh M' → bad = false → M' <+: B.drop p → bad' = false
  sh : Sh M
  len : ∀ M', Sh M' → M'.length = M.length
/-- bytes that consist of two parts -/
def Two (S T : List Int → Prop) : List Int → Prop := fun M => ∃ X Y, M = X ++ Y ∧ S X ∧ T Y
theorem pre_same {A B C D : List Int} (h : A ++ B = C ++ D) (hl : A.length = C.length) : A = C ∧ B = D := List.append_inj h hl
theorem RdS.trans {B : List Int} {p p1 p2 : Nat} {b b1 b2 : Bool} {M N : List Int} {S T : List Int → Prop} (h : RdS B p b p1 b1 M S) (k : RdS B p1 b1 p2 b2 N T) : RdS B p b p2 b2 (M ++ N) (Two S T) := by
  refine ⟨k.le, fun e => ?_, ?_, ⟨M, N, rfl, h.sh, k.sh⟩, ?_⟩
  · obtain ⟨e1, h1⟩ := k.good e
    obtain ⟨e2, h2⟩ := h.good e1
    exact ⟨e2, by rw [h2, h1, List.append_assoc]⟩
  · rintro _ ⟨X, Y, rfl, hX, hY⟩ e ⟨R, hR⟩
    have e1 := h.all X hX e ⟨Y ++ R, by rw [← List.append_assoc]; exact hR⟩
    refine k.all Y hY e1 ⟨R, ?_⟩
    have h2 := (h.good e1).2
    rw [h2, List.append_assoc] at hR
    exact (pre_same hR (h.len X hX)).2
  · rintro _ ⟨X, Y, rfl, hX, hY⟩
    rw [List.length_append, List.length_append, h.len X hX, k.len Y hY]
theorem RdS.refl {B : List Int} {p : Nat} (b : Bool) (h : p ≤ B.length) : RdS B p b p b [] (fun M => M = []) :=
  ⟨h, fun e => ⟨e, rfl⟩, fun _ _ e _ => e, rfl, fun _ e => by rw [e]⟩
theorem RdS.imp {B : List Int} {p p' : Nat} {b b' : Bool} {M M2 : List Int} {S T : List Int → Prop} (h : RdS B p b p' b' M S) (e : M = M2) (hT : ∀ X, T X ↔ S X) : RdS B p b p' b' M2 T := by
  subst e
  exact ⟨h.le, h.good, fun X hX => h.all X ((hT X).1 hX), (hT _).2 h.sh, fun X hX => h.len X ((hT X).1 hX)⟩
/-- the bytes L come next -/
def metB (B L : List Int) (p : Nat) : Bool := L.isPrefixOf (B.drop p)
theorem met_iff {B L : List Int} {p : Nat} : metB B L p = true ↔ L <+: B.drop p := List.isPrefixOf_iff_prefix
def metP (B L : List Int) (p : Nat) : Nat := if metB B L p = true then p + L.length else p
theorem metP_le {B L : List Int} {p : Nat} (h : p ≤ B.length) : metP B L p ≤ B.length := by
  unfold metP
  by_cases e : metB B L p = true
  · rw [if_pos e]
    have := (met_iff.1 e).length_le
    rw [List.length_drop] at this
    omega
  · rw [if_neg e]; exact h
theorem RdS.met {B L : List Int} {p : Nat} (b : Bool) (h : p ≤ B.length) : RdS B p b (metP B L p) (b || !metB B L p) L (fun M => M = L) := by
  refine ⟨metP_le h, fun e => ?_, ?_, rfl, fun _ e => by rw [e]⟩
  · cases hb : b
    · cases hm : metB B L p
      · rw [hb, hm] at e; cases e
      · refine ⟨rfl, ?_⟩
        unfold metP
        rw [if_pos hm]
        obtain ⟨R, hR⟩ := met_iff.1 hm
        rw [← hR]
        congr 1
        rw [← List.drop_drop, ← hR, List.drop_left]
    · rw [hb] at e; cases e
  · rintro _ rfl e hp
    rw [e, met_iff.2 hp]
    rfl
/-- the next n bytes -/
def tkB (B : List Int) (p n : Nat) : List Int := if p + n ≤ B.length then (B.drop p).take n else List.replicate n 0
def tkP (B : List Int) (p n : Nat) : Nat := if p + n ≤ B.length then p + n else p
theorem tkB_len (B : List Int) (p n : Nat) : (tkB B p n).length = n := by
  unfold tkB
  split
  · rw [List.length_take, List.length_drop]; omega
  · simp
theorem tkB_byt {B : List Int} (h : Byt B) (p n : Nat) : Byt (tkB B p n) := by
  unfold tkB
  split
  · exact fun x hx => h x (List.mem_of_mem_drop (List.mem_of_mem_take hx))
  · intro x hx
    rw [List.eq_of_mem_replicate hx]
    exact ⟨by decide, by decide⟩
theorem RdS.take {B : List Int} {p : Nat} (n : Nat) (b : Bool) (h : p ≤ B.length) : RdS B p b (tkP B p n) (b || decide (B.length < p + n)) (tkB B p n) (fun M => M.length = n) := by
  refine ⟨?_, fun e => ?_, ?_, tkB_len B p n, fun _ e => by rw [e, tkB_len]⟩
  · unfold tkP; split <;> omega
  · cases hb : b
    · rw [hb] at e
      simp at e
      refine ⟨rfl, ?_⟩
      unfold tkB tkP
      rw [if_pos e, if_pos e, ← List.drop_drop, List.take_append_drop]
    · rw [hb] at e; cases e
  · intro M hM e hp
    rw [e]
    have := hp.length_le
    rw [List.length_drop, hM] at this
    simp
    omega
end Go.Proofs.Ytilghknalbhacaa
namespace Go.Proofs.Ytilghknalbhacaa
open Go.RowKit
/-! Comparing two lists that are alike. -/
def tcs (C S : Nat → Int) : Nat → Value := fun j => if j % 2 = 0 then .int .i64 (C (j / 2)) else .int .i64 (S (j / 2))
theorem tcs0 (C S : Nat → Int) (i : Nat) : tcs C S (i * 2) = .int .i64 (C i) := by
  unfold tcs; rw [if_pos (by omega), show i * 2 / 2 = i by omega]
theorem tcs1 (C S : Nat → Int) (i : Nat) : tcs C S (i * 2 + 1) = .int .i64 (S i) := by
  unfold tcs; rw [if_neg (by omega), show (i * 2 + 1) / 2 = i by omega]
theorem RdA.two {w : World} {ao : Option Addr} {n cap : Nat} {C S : Nat → Int} (h : RdA w ao 2 n cap (tcs C S)) (hn : 0 < n) : ∃ b off, ao = some ⟨b, off, none⟩ ∧ ∀ i, i < n → w.cell? ⟨b, off + i * 2, none⟩ = some (.int .i64 (C i)) ∧ w.cell? ⟨b, off + i * 2 + 1, none⟩ = some (.int .i64 (S i)) := by
  obtain ⟨b, off, rfl, hc⟩ := h.at_ hn
  refine ⟨b, off, rfl, fun i hi => ⟨?_, ?_⟩⟩
  · rw [hc (i * 2) (by omega), tcs0]
  · rw [show off + i * 2 + 1 = off + (i * 2 + 1) by omega, hc (i * 2 + 1) (by omega), tcs1]
end Go.Proofs.Ytilghknalbhacaa
