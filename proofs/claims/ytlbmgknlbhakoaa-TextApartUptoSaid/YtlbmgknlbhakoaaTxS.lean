import Derived.Test.YtlbmgknlbhakoaaTxR
import Derived.Deep.DeepCutAuto
namespace Go.Proofs.Ytlbmgknlbhakoaa
open Go.RowKit
/-! TextPieces. -/
def pX (d : VD) (sts : List (List Int)) (ts : List Nat) (p : Nat) : List Int := fdX d sts [] false (ts.take p)
def pE (d : VD) (sts : List (List Int)) (ts : List Nat) (p : Nat) : Bool := fdE d sts [] false (ts.take p)
def pO (d : VD) (sts : List (List Int)) (ts : List Nat) (p : Nat) : List Int := fdO d sts [] false (ts.take p)
section
variable {d : VD} {sts : List (List Int)} (hd : ∀ k, Byt (d.pc k)) (ts : List Nat)
theorem p_zero : pX d sts ts 0 = [] ∧ pE d sts ts 0 = false ∧ pO d sts ts 0 = [] := by
  simp [pX, pE, pO, fdX, fdE, fdO, comT]
include hd in
theorem p_stl (p : Nat) : Stl sts (pX d sts ts p) (pE d sts ts p) := fd_stl hd (stl_start sts) _
include hd in
theorem p_add (p k : Nat) : pX d sts ts (p + k) = fdX d sts (pX d sts ts p) (pE d sts ts p) ((ts.drop p).take k) ∧ pE d sts ts (p + k) = fdE d sts (pX d sts ts p) (pE d sts ts p) ((ts.drop p).take k) ∧ pO d sts ts (p + k) = pO d sts ts p ++ fdO d sts (pX d sts ts p) (pE d sts ts p) ((ts.drop p).take k) := by
  obtain ⟨h1, h2, h3⟩ := fd_app hd (stl_start sts) (ts.take p) ((ts.drop p).take k)
  unfold pX pE pO
  rw [List.take_add]
  exact ⟨h2, h3, h1⟩
theorem spl_len (hl : ∀ t ∈ ts, (d.pc t).length ≤ 16) : (spl d ts).length ≤ 16 * ts.length := by
  induction ts with
  | nil => simp [spl]
  | cons t r ih =>
    have h1 := hl t (by simp)
    have h2 := ih (fun t ht => hl t (by simp [ht]))
    simp only [spl, List.flatMap_cons, List.length_append, List.length_cons] at h2 ⊢
    omega
theorem pO_len (hl : ∀ t ∈ ts, (d.pc t).length ≤ 16) (p : Nat) : (pO d sts ts p).length ≤ 16 * p := by
  have h1 := spl_len (ts.take p) (fun t ht => hl t (List.mem_of_mem_take ht))
  have h2 := (comT_pre (d := d) (sts := sts) (ts.take p) []).length_le
  unfold pO fdO
  simp only [Bool.false_eq_true, if_false, List.length_take, List.nil_append] at h1 h2 ⊢
  omega
end
theorem drop_one {ts : List Nat} {k : Nat} (h : k < ts.length) : (ts.drop k).take 1 = [ts.getD k 0] := by
  rw [dropN_cons h]; simp
theorem dropT_get {ts : List Nat} {p k i : Nat} (hi : i < k) : ((ts.drop p).take k).getD i 0 = ts.getD (p + i) 0 := by
  simp [List.getD_eq_getElem?_getD, hi]
theorem mem_good {d : VD} (hR : d.Right) {ts : List Nat} (hg : ∀ i, i < ts.length → ts.getD i 0 < d.nb + 1 + d.np) : ∀ t ∈ ts, (d.pc t).length ≤ 16 := fun t ht => by
  obtain ⟨i, hi, e⟩ := List.mem_iff_getElem.1 ht
  have := hg i hi
  rw [List.getD_eq_getElem?_getD, List.getElem?_eq_getElem hi] at this
  simp at this
  rw [e] at this
  exact hR.len_all t this
/-- Two streams, freshly made, and two empty lists. -/
theorem fam_two {w2 w0 : World} {S1 S2 : Nat} {K1 K2 : Nat → Prop} {d : VD} {sts sts' : List (List Int)} (h1 : StA w0 S1 K1 d sts (.slice none 0 0) [] false) (h2 : StA w0 S2 K2 d sts' (.slice none 0 0) [] false) (hS1 : S1 < w2.heap.size) (hS2 : w2.heap.size ≤ S2) (k1 : ∀ b, K1 b → b < w2.heap.size) (k2 : ∀ b, K2 b → w2.heap.size ≤ b) :
    Fam w0 2 4 (fun j => if j = 0 then S1 else S2) (fun j => if j = 0 then K1 else K2) d (fun j => if j = 0 then sts else sts') (fun _ => .slice none 0 0) (fun _ => []) (fun _ => false) w0 := by
  have nn : ∀ b, (Value.slice none 0 0).ownBlock ≠ some b := fun b e => by simp [Value.ownBlock] at e
  refine ⟨by omega, fun j hj => ?_, fun i _ => ownB_nil _ _, fun i _ b hb => absurd hb (nn b), fun i j _ _ _ b hb => absurd hb (nn b), fun j hj => ?_, fun i j hi hj hne => ?_, fun j b hj hk => ?_, Chg.refl _ _⟩
  · obtain rfl | rfl : j = 0 ∨ j = 1 := by omega
    · exact h1.p
    · exact h2.p
  · obtain rfl | rfl : j = 0 ∨ j = 1 := by omega
    · exact h1.p.lt
    · exact h2.p.lt
  · obtain rfl | rfl : i = 0 ∨ i = 1 := by omega
    · obtain rfl | rfl : j = 0 ∨ j = 1 := by omega
      · exact absurd rfl hne
      · simp; omega
    · obtain rfl | rfl : j = 0 ∨ j = 1 := by omega
      · simp; omega
      · exact absurd rfl hne
  · obtain rfl | rfl : j = 0 ∨ j = 1 := by omega
    · have hk : K1 b := hk
      refine ⟨h1.p.kl b hk, fun i hi => ?_⟩
      obtain rfl | rfl : i = 0 ∨ i = 1 := by omega
      · intro e
        have e : b = S1 := e
        exact h1.p.kS (e ▸ hk)
      · have := k1 b hk
        simp; omega
    · have hk : K2 b := hk
      refine ⟨h2.p.kl b hk, fun i hi => ?_⟩
      obtain rfl | rfl : i = 0 ∨ i = 1 := by omega
      · have := k2 b hk
        simp; omega
      · intro e
        have e : b = S2 := e
        exact h2.p.kS (e ▸ hk)
/-- What TextPieces' loop keeps. -/
structure PcI (w0 : World) (S : Nat → Nat) (K : Nat → Nat → Prop) (d : VD) (sts : List (List Int)) (ts : List Nat) (p1 p2 r1 r2 : Nat) (V : Nat → Value) (L : Nat → List Int) (O : Nat → Bool) (wX : World) : Prop where
  fam : Fam w0 2 4 S K d (fun _ => sts) V L O wX
  x1 : L 0 = pX d sts ts p1
  x2 : L 1 = pX d sts ts p2
  e1 : O 0 = pE d sts ts p1
  e2 : O 1 = pE d sts ts p2
  o1 : L 2 = pO d sts ts r1
  o2 : L 3 = pO d sts ts r2
section
variable {w0 wX wY : World} {S : Nat → Nat} {K : Nat → Nat → Prop} {d : VD} {sts : List (List Int)} {ts : List Nat} {p1 p2 r1 r2 : Nat} {V : Nat → Value} {L : Nat → List Int} {O : Nat → Bool}
theorem PcI.fresh (h : PcI w0 S K d sts ts p1 p2 r1 r2 V L O wX) (f : Below wX.heap.size wX wY) : PcI w0 S K d sts ts p1 p2 r1 r2 V L O wY := ⟨h.fam.fresh f, h.x1, h.x2, h.e1, h.e2, h.o1, h.o2⟩
theorem PcI.feed2 (hd : ∀ k, Byt (d.pc k)) (h : PcI w0 S K d sts ts p1 p2 r1 r2 V L O wX) {v : Value} {k : Nat} (f : Fed wX (S 1) (K 1) d sts (V 1) (L 1) (O 1) ((ts.drop p2).take k) v wY) (ho : O 1 = true → v = .slice none 0 0) :
    ∃ V' L' O' A, PcI w0 S K d sts ts p1 (p2 + k) r1 r2 V' L' O' wY ∧ V' 2 = V 2 ∧ V' 3 = V 3 ∧ pO d sts ts (p2 + k) = pO d sts ts p2 ++ A ∧ OwnB wY 0 v A ∧ (∀ b, v.ownBlock = some b → (V 3).ownBlock ≠ some b) := by
  obtain ⟨wv, hf, h1, h2⟩ := h.fam.feed (j := 1) (by omega) f ho
  obtain ⟨a1, a2, a3⟩ := p_add (sts := sts) hd ts p2 k
  refine ⟨_, _, _, _, ⟨hf, ?_, ?_, ?_, ?_, ?_, ?_⟩, pt_ne _ _ (by decide), pt_ne _ _ (by decide), a3, ?_, fun b hb e => h2 3 (by omega) b (by rw [pt_ne _ _ (by decide)]; exact e) hb⟩
  · rw [pt_ne _ _ (by decide)]; exact h.x1
  · rw [pt_at, a1, h.x2, h.e2]
  · rw [pt_ne _ _ (by decide)]; exact h.e1
  · rw [pt_at, a2, h.x2, h.e2]
  · rw [pt_ne _ _ (by decide)]; exact h.o1
  · rw [pt_ne _ _ (by decide)]; exact h.o2
  · rw [← h.x2, ← h.e2]; exact h1
theorem PcI.feed1 (hd : ∀ k, Byt (d.pc k)) (h : PcI w0 S K d sts ts p1 p2 r1 r2 V L O wX) {v : Value} {k : Nat} (f : Fed wX (S 0) (K 0) d sts (V 0) (L 0) (O 0) ((ts.drop p1).take k) v wY) (ho : O 0 = true → v = .slice none 0 0) :
    ∃ V' L' O' A, PcI w0 S K d sts ts (p1 + k) p2 r1 r2 V' L' O' wY ∧ V' 2 = V 2 ∧ V' 3 = V 3 ∧ pO d sts ts (p1 + k) = pO d sts ts p1 ++ A ∧ OwnB wY 0 v A ∧ (∀ b, v.ownBlock = some b → (V 2).ownBlock ≠ some b) := by
  obtain ⟨wv, hf, h1, h2⟩ := h.fam.feed (j := 0) (by omega) f ho
  obtain ⟨a1, a2, a3⟩ := p_add (sts := sts) hd ts p1 k
  refine ⟨_, _, _, _, ⟨hf, ?_, ?_, ?_, ?_, ?_, ?_⟩, pt_ne _ _ (by decide), pt_ne _ _ (by decide), a3, ?_, fun b hb e => h2 2 (by omega) b (by rw [pt_ne _ _ (by decide)]; exact e) hb⟩
  · rw [pt_at, a1, h.x1, h.e1]
  · rw [pt_ne _ _ (by decide)]; exact h.x2
  · rw [pt_at, a2, h.x1, h.e1]
  · rw [pt_ne _ _ (by decide)]; exact h.e2
  · rw [pt_ne _ _ (by decide)]; exact h.o1
  · rw [pt_ne _ _ (by decide)]; exact h.o2
  · rw [← h.x1, ← h.e1]; exact h1
theorem PcI.join1 (h : PcI w0 S K d sts ts p1 p2 r1 r2 V L O wX) {v : Value} {r : Nat} (f : JnP wX (V 2) (pO d sts ts r) v wY) : ∃ V' L', PcI w0 S K d sts ts p1 p2 r r2 V' L' O wY ∧ V' 2 = v ∧ V' 3 = V 3 := by
  refine ⟨_, _, ⟨h.fam.join (i := 2) (by omega) (by omega) f, ?_, ?_, h.e1, h.e2, ?_, ?_⟩, pt_at _ _ _, pt_ne _ _ (by decide)⟩
  · rw [pt_ne _ _ (by decide)]; exact h.x1
  · rw [pt_ne _ _ (by decide)]; exact h.x2
  · rw [pt_at]
  · rw [pt_ne _ _ (by decide)]; exact h.o2
theorem PcI.join2 (h : PcI w0 S K d sts ts p1 p2 r1 r2 V L O wX) {v : Value} {r : Nat} (f : JnP wX (V 3) (pO d sts ts r) v wY) : ∃ V' L', PcI w0 S K d sts ts p1 p2 r1 r V' L' O wY ∧ V' 2 = V 2 ∧ V' 3 = v := by
  refine ⟨_, _, ⟨h.fam.join (i := 3) (by omega) (by omega) f, ?_, ?_, h.e1, h.e2, ?_, ?_⟩, pt_ne _ _ (by decide), pt_at _ _ _⟩
  · rw [pt_ne _ _ (by decide)]; exact h.x1
  · rw [pt_ne _ _ (by decide)]; exact h.x2
  · rw [pt_ne _ _ (by decide)]; exact h.o1
  · rw [pt_at]
end
set_option maxRecDepth 100000 in
set_option maxHeartbeats 16000000 in
theorem pieces_law {w : World} {d : VD} {bo po so lo ko : Option Addr} {cb cp cs cl ck n C : Nat} {sb : List ByteArray} {T U : Nat → Int} (hb : RdA w bo 1 d.nb cb (fun i => .int .u8 (d.B i))) (hp : RdA w po 2 d.np cp (tcs d.P d.Q)) (hB : ∀ i, i < d.nb → 0 ≤ d.B i ∧ d.B i ≤ 255)
    (hs : RdA w so 1 sb.length cs (fun i => .string (sb.getD i ByteArray.empty))) (hlen : ∀ i, i < sb.length → (sb.getD i ByteArray.empty).size ≤ 9223372036854775807)
    (hl : RdA w lo 1 n cl (fun i => .int .i64 (T i))) (hT : ∀ i, i < n → -9223372036854775808 ≤ T i ∧ T i ≤ 9223372036854775807) (hk : RdA w ko 1 C ck (fun i => .int .i64 (U i))) (hU : ∀ i, i < C → -9223372036854775808 ≤ U i ∧ U i ≤ 9223372036854775807) (hC : C ≤ 17592186044416) :
    Calls Try.prog 4 #[.agg #[.slice bo d.nb cb, .slice po d.np cp], .slice so sb.length cs, .slice lo n cl, .slice ko C ck] w fun e w' => e = .returned (.bool true) ∧ Below w.heap.size w w' := by
  have hf0 := fresh_alloc w (.cells #[.slice bo d.nb cb, .slice po d.np cp] 25)
  have q0 := row2_new w 25 (.slice bo d.nb cb) (.slice po d.np cp)
  have hn1 := Nat.le_trans hl.le hl.top
  have hckC := hk.le
  unfold maxLen at hn1
  have HL1 := hidd (fun w' => long_any n hn1 w')
  have HB := hidd hb
  have HP := hidd hp
  have HBB := hidd hB
  have HS := hidd hs
  have HLEN := hidd hlen
  have HL := hidd hl
  have HT := hidd hT
  have HK := hidd hk
  have HU := hidd hU
  clear hb hp hB hs hlen hl hT hk hU
  obtain ⟨w0, ew0⟩ : ∃ w0, w0 = w.alloc (.cells #[.slice bo d.nb cb, .slice po d.np cp] 25) := ⟨_, rfl⟩
  by_cases hn : 2147483647 < n
  · rw [decide_eq_true hn] at HL1
    go_enter Try.func4, Try.ntmps4
    go_wp2_with fail
    refine (HL1.out _).mono ?_
    rintro e w1 ⟨rfl, hw⟩
    rw [hw]
    clear hw
    go_wp2
    go_ret
    exact ⟨rfl, hf0⟩
  rw [decide_eq_false hn] at HL1
  obtain ⟨k, ek⟩ : ∃ k, k = sb.length := ⟨_, rfl⟩
  have EK := hidd ek
  by_cases hRM : d.Right ∧ MaySt sb
  · have HR := hidd hRM.1
    have HM := hidd hRM.2
    have HCST : Hid (Cst d (sb.map bys)) := ⟨hRM.1, maySt_ok hRM.2, vd_byt HBB.out⟩
    have HNW : Hid (∀ w', Below w.heap.size w w' → Calls Try.prog 11 #[.agg #[.slice bo d.nb cb, .slice po d.np cp], .slice so k cs] w' fun e w'' => ∃ S K, e = .returned (.tuple #[.pointer (some ⟨S, 0, none⟩), .int .i64 0]) ∧ StA w'' S K d (sb.map bys) (.slice none 0 0) [] false ∧ Below w'.heap.size w' w'' ∧ w'.heap.size ≤ S ∧ (∀ b, K b → w'.heap.size ≤ b)) := fun w' f => by
      have := new_ok (HB.out.fresh f) (HP.out.fresh f) HR.out (HS.out.fresh f) HM.out
      rwa [← ek] at this
    rw [← ek]
    clear ek hRM
    obtain ⟨sts, est⟩ : ∃ sts, sts = sb.map bys := ⟨_, rfl⟩
    rw [← est] at HCST HNW
    clear est
    go_enter Try.func4, Try.ntmps4
    go_wp2_with fail
    refine (HL1.out _).mono ?_
    rintro e w1 ⟨rfl, hw⟩
    rw [hw]
    clear hw
    go_wp2_with fail
    rw [← ew0] at hf0 q0 ⊢
    clear ew0
    refine (fixed_any w0).mono ?_
    rintro e w1 ⟨rfl, f1⟩
    have hF1 := fresh_trans hf0 f1
    have q1 := q0.of_block (f1.block _ q0.lt)
    clear q0 f1 hf0
    obtain ⟨y0, y1⟩ := row2 q1
    go_wp2_with fail
    refine (HNW.out w1 hF1).mono ?_
    rintro e w2 ⟨S1, K1, rfl, hS1, f2, hl1, _⟩
    have hF2 := fresh_trans hF1 f2
    have q2 := q1.of_block (f2.block _ q1.lt)
    obtain ⟨z0, z1⟩ := row2 q2
    clear y0 y1 q1
    go_wp2_with fail
    refine (HNW.out w2 hF2).mono ?_
    rintro e w3 ⟨S2, K2, rfl, hS2, f3, hl2, hk2⟩
    have hF3 := fresh_trans hF2 f3
    have q3 := q2.of_block (f3.block _ q2.lt)
    obtain ⟨y0, y1⟩ := row2 q3
    have HRT := hidd (right_any (HB.out.fresh hF3) (HP.out.fresh hF3) HR.out (HL.out.fresh hF3) HT.out (by omega) true)
    clear z0 z1 q2 HNW
    go_wp2_with fail
    refine HRT.out.mono ?_
    rintro e w4 ⟨v4, rfl, hO4, f4⟩
    have hfam := fam_two (w2 := w2) ((hS1.fresh f3).fresh f4) (hS2.fresh f4) hS1.p.lt hl2 hS1.p.kl hk2
    have hF4 := fresh_trans hF3 f4
    have hS1l := hS1.p.lt
    have hS2l := hS2.p.lt
    have hz3 := f3.size
    have hz2 := f2.size
    have hz4 := f4.size
    have hzw := hF1.size
    obtain ⟨a4, c4, rfl, r4⟩ := hO4.rd
    have HBT : Hid (∀ b off, a4 = some ⟨b, off, none⟩ → w3.heap.size ≤ b ∧ b < w4.heap.size) := fun b off e => by subst e; exact hO4.lt b rfl
    have hc4 := r4.le
    have hc4t := r4.top
    unfold maxLen at hc4t
    obtain ⟨ts, ets⟩ : ∃ ts, ts = rtL d true T n := ⟨_, rfl⟩
    have ETL : Hid (ts.length = n) := by show _ = _; rw [ets, rtL_len]
    have HGD : Hid (∀ i, i < n → ts.getD i 0 < d.nb + 1 + d.np) := by rw [ets]; exact rt_good HR.out true T n
    rw [← ets] at r4
    clear ets hO4 HRT y0 y1 q3 f2 f3 f4 hS1 hS2
    have HR4 := hidd r4
    obtain ⟨S, eS⟩ : ∃ S : Nat → Nat, S = fun j => if j = 0 then S1 else S2 := ⟨_, rfl⟩
    obtain ⟨K, eK⟩ : ∃ K : Nat → Nat → Prop, K = fun j => if j = 0 then K1 else K2 := ⟨_, rfl⟩
    have hst2 : (fun j => if j = 0 then sts else sts) = fun (_ : Nat) => sts := by funext j; split <;> rfl
    rw [hst2, ← eS, ← eK] at hfam
    have eS0 : Hid (S 0 = S1) := by rw [eS]; exact rfl
    have eS1 : Hid (S 1 = S2) := by rw [eS]; exact rfl
    have hZ := p_zero (d := d) (sts := sts) ts
    have HI0 : Hid (PcI w4 S K d sts ts 0 0 0 0 (fun _ => .slice none 0 0) (fun _ => []) (fun _ => false) w4) := ⟨hfam, hZ.1.symm, hZ.1.symm, hZ.2.1.symm, hZ.2.1.symm, hZ.2.2.symm, hZ.2.2.symm⟩
    have HLM : Hid (∀ p, (pO d sts ts p).length ≤ 16 * p) := fun p => pO_len ts (mem_good HR.out (by rw [ETL.out]; exact HGD.out)) p
    have HNS : Hid (∀ b off, a4 = some ⟨b, off, none⟩ → ∀ j, j < 2 → b ≠ S j) := fun b off e j hj => by
      have := HBT.out b off e
      obtain rfl | rfl : j = 0 ∨ j = 1 := by omega
      · rw [eS0.out]; omega
      · rw [eS1.out]; omega
    have HKR : Hid (∀ wX V L O, Fam w4 2 4 S K d (fun _ => sts) V L O wX → RdA wX ko 1 C ck (fun i => .int .i64 (U i))) := fun wX V L O hf => by
      have hr := HK.out
      refine ⟨hr.le, hr.top, fun h0 => ?_⟩
      obtain ⟨b, off, e, hc⟩ := hr.at_ h0
      refine ⟨b, off, e, fun i hi => hf.chg.cell (fresh_cell hF4 (hc i hi)) (fun ⟨j, hj, e2⟩ => ?_)⟩
      have := lt_of_cell (hc i hi)
      obtain rfl | rfl : j = 0 ∨ j = 1 := by omega
      · rw [eS0.out] at e2; omega
      · rw [eS1.out] at e2; omega
    clear hfam hZ hst2 eS eK r4
    have hN2 : n ≤ 2147483647 := by omega
    have HFIN : Hid (∀ wX, Chg w4 wX (fun b => ∃ j, j < 2 ∧ b = S j) → Below w.heap.size w wX) := fun wX c => c.below (hF4.mono (Nat.le_refl _)) hF4.size (fun b ⟨j, hj, e⟩ => by
      obtain rfl | rfl : j = 0 ∨ j = 1 := by omega
      · rw [eS0.out] at e; omega
      · rw [eS1.out] at e; omega)
    go_wp2
    go_loopw [15, 16, 17, 18] (fun va vb at_ i wr => ∃ (p q : Nat) (V : Nat → Value) (L : Nat → List Int) (O : Nat → Bool), p ≤ n ∧ q ≤ C + p ∧ at_ = .int .i64 p ∧ i = .int .i64 q ∧ va = V 2 ∧ vb = V 3 ∧ Hid (PcI w4 S K d sts ts p p p p V L O wr)) (fun _ _ at_ i _ => (C - (intOf i).toNat) + (n - (intOf at_).toNat))
    case atStart => exact ⟨0, 0, _, _, _, Nat.zero_le _, Nat.zero_le _, rfl, rfl, rfl, rfl, HI0⟩
    case round =>
      obtain ⟨p, q, V, L, O, hp, hq, rfl, rfl, rfl, rfl, HI⟩ := hrel
      obtain ⟨av, kv, ev, _⟩ := OwnB.rda (HI.out.fam.own 2 (by omega))
      obtain ⟨bv, jv, ev', _⟩ := OwnB.rda (HI.out.fam.own 3 (by omega))
      rw [ev, ev']
      have EV := hidd ev
      have EV' := hidd ev'
      clear ev ev'
      obtain ⟨la, ela⟩ : ∃ la, la = (L 2).length := ⟨_, rfl⟩
      obtain ⟨lb, elb⟩ : ∃ lb, lb = (L 3).length := ⟨_, rfl⟩
      rw [← ela] at EV ⊢
      rw [← elb] at EV' ⊢
      clear ela elb
      by_cases hlt : p < n
      · obtain ⟨bt, ot, rfl, hcs⟩ := HR4.out.one (by omega)
        go_upto_if 78 with fail
        go_cut [19] from 78 to 87 (fun v19 wx => wx = wr ∧ ∃ k0 : Nat, v19 = .int .i64 k0 ∧ k0 ≤ 4 ∧ (C ≤ q → k0 = 1))
        case first =>
          by_cases hqC : q < C
          · obtain ⟨bk, ok, rfl, hks⟩ := (HKR.out wr V L O HI.out.fam).one (by omega)
            have ck1 := hks q hqC
            have hub := HU.out q hqC
            obtain ⟨z, ez⟩ : ∃ z, z = U q := ⟨_, rfl⟩
            rw [← ez] at ck1 hub
            clear hks ez
            have hu1 := Int.lt_tmod_of_pos z (show (0 : Int) < 5 by decide)
            have hu2 := Int.tmod_lt_of_pos z (show (0 : Int) < 5 by decide)
            obtain ⟨u, eu⟩ : ∃ u, u = z.tmod 5 := ⟨_, rfl⟩
            rw [← eu] at hu1 hu2
            have hq5 := eu.symm
            clear eu
            have dq : decide ((q : Int) < (C : Int)) = true := by simp; omega
            by_cases hu0 : u < 0
            · obtain ⟨k0, ek0⟩ : ∃ k0 : Nat, -u = (k0 : Int) := ⟨(-u).toNat, by omega⟩
              have EK0 := hidd ek0
              clear ek0
              go_wp2_with fail
              go_meet
              case rel => exact ⟨rfl, k0, by first | exact congrArg _ EK0.out | (rw [← EK0.out]; go_num), by have := EK0.out; omega, fun h => by omega⟩
            · obtain ⟨k0, ek0⟩ : ∃ k0 : Nat, u = (k0 : Int) := ⟨u.toNat, by omega⟩
              have EK0 := hidd ek0
              clear ek0
              go_wp2_with fail
              go_meet
              case rel => exact ⟨rfl, k0, by first | exact congrArg _ EK0.out | (rw [← EK0.out]; go_num), by have := EK0.out; omega, fun h => by omega⟩
          · have dq : decide ((q : Int) < (C : Int)) = false := by simp; omega
            go_wp2_with fail
            go_meet
            case rel => exact ⟨rfl, 1, rfl, by omega, fun _ => rfl⟩
        case rest =>
          obtain ⟨hwc, k0, rfl, hk0, hk1⟩ := hcut
          rw [hwc]
          clear hwc
          obtain ⟨k1, ek1⟩ : ∃ k1, k1 = min k0 (n - p) := ⟨_, rfl⟩
          have hk1n : p + k1 ≤ n := by omega
          have hk14 : k1 ≤ 4 := by omega
          have hk1C : C ≤ q → 1 ≤ k1 := fun h => by have := hk1 h; omega
          have EK1 := hidd ek1
          clear ek1 hk1
          go_upto_if 93 with fail
          go_cut [19] from 93 to 97 (fun v19 wx => wx = wr ∧ v19 = .int .i64 k1)
          case first =>
            by_cases hkk : n - p < k0
            · have dk : decide (((n : Int) - (p : Int)) < (k0 : Int)) = true := by simp; omega
              have ek1 : Hid (((n : Int) - (p : Int)) = (k1 : Int)) := by show _ = _; have := EK1.out; omega
              go_wp2_with fail
              go_meet
              case rel => exact ⟨rfl, congrArg _ ek1.out⟩
            · have dk : decide (((n : Int) - (p : Int)) < (k0 : Int)) = false := by simp; omega
              have ek1 : Hid ((k0 : Int) = (k1 : Int)) := by show _ = _; have := EK1.out; omega
              go_wp2_with fail
              go_meet
              case rel => exact ⟨rfl, congrArg _ ek1.out⟩
          case rest =>
            obtain ⟨hwc, rfl⟩ := hcut
            rw [hwc]
            clear hwc EK1
            have HTK : Hid (RdA wr (some ⟨bt, ot + p, none⟩) 1 k1 (c4 - p) (fun i => .int .i64 ((((ts.drop p).take k1).getD i 0 : Nat) : Int))) := by
              have hr := HI.out.fam.rd HR4.out HNS.out
              refine ⟨by have := hr.le; omega, by have := hr.top; omega, fun h0 => ⟨bt, ot + p, rfl, fun j hj => ?_⟩⟩
              obtain ⟨b', o', e', hc'⟩ := hr.one (by omega)
              cases e'
              rw [show ot + p + j = ot + (p + j) by omega, hc' (p + j) (by omega), dropT_get (by omega)]
            have HF2 := hidd (feed_any2 HCST.out (HI.out.fam.sta (j := 1) (by omega)) (by rw [HI.out.x2, HI.out.e2]; exact p_stl HCST.out.byt ts p) (show ((ts.drop p).take k1).length = k1 by rw [List.length_take, List.length_drop, ETL.out]; omega) HTK.out (fun b off e => by
              cases e
              have := HBT.out bt ot rfl
              refine ⟨fun e => ?_, HNS.out bt ot rfl 1 (by omega)⟩
              have := HI.out.fam.lo 1 (by omega) _ e
              omega) (fun i hi => by rw [dropT_get hi]; exact HGD.out _ (by omega)) (by omega))
            rw [eS1.out] at HF2
            have hpk : (((p + k1 : Nat) : Int)) = (p : Int) + (k1 : Int) := by omega
            have HPK := hidd hpk
            clear hpk
            go_wp2_with fail
            refine HF2.out.mono ?_
            rintro e w5 ⟨v5, rfl, hfd, hov⟩
            rw [← eS1.out] at hfd
            obtain ⟨V5, L5, O5, A5, hI5, g2, g3, hA5, hO5, hoff5⟩ := HI.out.feed2 HCST.out.byt hfd hov
            obtain ⟨a5, c5, rfl, r5⟩ := OwnB.rda hO5
            have hlm := HLM.out (p + k1)
            have HJ := hidd (ljoin_any (hI5.fam.own 3 (by omega)) r5 (fun b off e e2 => by subst e; rw [g3] at e2; exact hoff5 b rfl e2) (by
              rw [hI5.o2, ← List.length_append, ← hA5]; omega))
            rw [hI5.o2, ← hA5, g3, EV'.out] at HJ
            have EG2 : Hid (V5 2 = .slice av la kv) := by show _ = _; rw [g2, EV.out]
            have EG3 : Hid (V5 3 = .slice bv lb jv) := by show _ = _; rw [g3, EV'.out]
            have HI5 := hidd hI5
            obtain ⟨l5, el5⟩ : ∃ l5, l5 = A5.length := ⟨_, rfl⟩
            rw [← el5] at HJ ⊢
            clear el5 r5 hO5 hoff5 hfd hov HF2 HTK hI5 g2 g3 EV EV' HI hlm hA5
            go_wp2_with fail
            refine HJ.out.mono ?_
            rintro e w6 ⟨v6, rfl, hj6⟩
            rw [← EG3.out] at hj6
            obtain ⟨V6, L6, hI6, g2, g3⟩ := HI5.out.join2 hj6
            obtain ⟨a6, c6, ev6, _⟩ := OwnB.rda hj6.own
            obtain ⟨l6, el6⟩ : ∃ l6, l6 = (pO d sts ts (p + k1)).length := ⟨_, rfl⟩
            rw [← el6] at ev6
            subst ev6
            have HI6 := hidd hI6
            have EH2 : Hid (V6 2 = .slice av la kv) := by show _ = _; rw [g2, EG2.out]
            have EH3 : Hid (V6 3 = .slice a6 l6 c6) := g3
            have EL6 := hidd el6
            clear HJ hj6 hI6 g2 g3 el6 HI5 EG2 EG3
            go_wp2
            go_loopw [15, 22] (fun va vk wr => ∃ (m : Nat) (V : Nat → Value) (L : Nat → List Int) (O : Nat → Bool), p ≤ m ∧ m ≤ p + k1 ∧ vk = .int .i64 m ∧ va = V 2 ∧ Hid (V 3 = .slice a6 l6 c6) ∧ Hid (PcI w4 S K d sts ts m (p + k1) m (p + k1) V L O wr)) (fun _ vk _ => p + k1 - (intOf vk).toNat)
            case atStart => exact ⟨p, V6, L6, O5, Nat.le_refl _, by omega, rfl, EH2.out.symm, EH3, HI6⟩
            case round =>
              clear HI6 EH2 EH3
              obtain ⟨m, V, L, O, hpm, hmk, rfl, rfl, EH3, HI⟩ := hrel
              obtain ⟨av, kv, ev, _⟩ := OwnB.rda (HI.out.fam.own 2 (by omega))
              rw [ev]
              have EV := hidd ev
              clear ev
              obtain ⟨la, ela⟩ : ∃ la, la = (L 2).length := ⟨_, rfl⟩
              rw [← ela] at EV ⊢
              by_cases hmlt : m < p + k1
              · obtain ⟨b', o', e', hc'⟩ := (HI.out.fam.rd HR4.out HNS.out).one (by omega)
                cases e'
                have cm := hc' m (by omega)
                have hgm := HGD.out m (by omega)
                have htk : (ts.drop m).take 1 = [ts.getD m 0] := drop_one (by rw [ETL.out]; omega)
                obtain ⟨t, et⟩ : ∃ t, t = ts.getD m 0 := ⟨_, rfl⟩
                rw [← et] at cm hgm htk
                have dm : decide ((m : Int) < (p : Int) + (k1 : Int)) = true := by simp; omega
                have fA := fresh_alloc wr (.cells #[.int .i64 (t : Int)] 3)
                have hI1 := HI.out.fresh fA
                have hSl := (HI.out.fam.st 0 (by omega)).lt
                have HF1 := hidd (feed_any2 (ts := (ts.drop m).take 1) (n := 1) HCST.out (hI1.fam.sta (j := 0) (by omega)) (by rw [HI.out.x1, HI.out.e1]; exact p_stl HCST.out.byt ts m) (by rw [htk]; rfl) (one_rd wr 3 (.int .i64 (t : Int)) (fun i => .int .i64 ((((ts.drop m).take 1).getD i 0 : Nat) : Int)) (by rw [htk]; rfl)) (fun b off e => by
                  cases e
                  refine ⟨fun e => ?_, by omega⟩
                  have := HI.out.fam.lt (i := 0) (by omega) e
                  omega) (fun i hi => by
                  obtain rfl : i = 0 := by omega
                  rw [htk]; exact hgm) (by decide))
                rw [eS0.out] at HF1
                have HI1 := hidd hI1
                clear et hc' htk hI1 fA ela
                go_wp2_with fail
                refine HF1.out.mono ?_
                rintro e w7 ⟨v7, rfl, hfd, hov⟩
                rw [← eS0.out] at hfd
                obtain ⟨V7, L7, O7, A7, hI7, g2, g3, hA7, hO7, hoff7⟩ := HI1.out.feed1 HCST.out.byt hfd hov
                obtain ⟨a7, c7, rfl, r7⟩ := OwnB.rda hO7
                have hlm := HLM.out (m + 1)
                have HJ := hidd (ljoin_any (hI7.fam.own 2 (by omega)) r7 (fun b off e e2 => by subst e; rw [g2] at e2; exact hoff7 b rfl e2) (by
                  rw [hI7.o1, ← List.length_append, ← hA7]; omega))
                rw [hI7.o1, ← hA7, g2, EV.out] at HJ
                have EG2 : Hid (V7 2 = .slice av la kv) := by show _ = _; rw [g2, EV.out]
                have EG3 : Hid (V7 3 = .slice a6 l6 c6) := by show _ = _; rw [g3, EH3.out]
                have HI7 := hidd hI7
                obtain ⟨l7, el7⟩ : ∃ l7, l7 = A7.length := ⟨_, rfl⟩
                rw [← el7] at HJ ⊢
                clear el7 r7 hO7 hoff7 hfd hov HF1 hI7 g2 g3 EV EH3 HI HI1 hlm hA7 cm
                go_wp2_with fail
                refine HJ.out.mono ?_
                rintro e w8 ⟨v8, rfl, hj8⟩
                rw [← EG2.out] at hj8
                obtain ⟨V8, L8, hI8, g2, g3⟩ := HI7.out.join1 hj8
                obtain ⟨a8, c8, ev8, _⟩ := OwnB.rda hj8.own
                obtain ⟨l8, el8⟩ : ∃ l8, l8 = (pO d sts ts (m + 1)).length := ⟨_, rfl⟩
                rw [← el8] at ev8
                subst ev8
                have HI8 := hidd hI8
                have EH2 : Hid (V8 2 = .slice a8 l8 c8) := g2
                have EH3 : Hid (V8 3 = .slice a6 l6 c6) := by show _ = _; rw [g3, EG3.out]
                clear HJ hj8 hI8 g2 g3 el8 HI7 EG2 EG3
                go_wp2
                go_roundw
                case rel => exact ⟨m + 1, V8, L8, O7, by omega, by omega, by go_num, EH2.out.symm, EH3, HI8⟩
                case measure => simp [intOf]; omega
              · obtain rfl : m = p + k1 := by omega
                have dm : decide (((p + k1 : Nat) : Int) < (p : Int) + (k1 : Int)) = false := by simp
                have HEQ : Hid (Calls Try.prog 18 #[.slice av la kv, .slice a6 l6 c6] wr fun e w' => e = .returned (.bool true) ∧ Below wr.heap.size wr w') := by
                  obtain ⟨x1, y1, e1, r1⟩ := OwnB.rda (HI.out.fam.own 2 (by omega))
                  obtain ⟨x2, y2, e2, r2⟩ := OwnB.rda (HI.out.fam.own 3 (by omega))
                  rw [EV.out] at e1
                  rw [EH3.out] at e2
                  injection e1 with e1 _ e1'
                  injection e2 with e2 _ e2'
                  subst e1 e1' e2 e2'
                  rw [HI.out.o1] at r1 ela
                  rw [HI.out.o2, ← EL6.out] at r2
                  rw [← EL6.out] at ela r1
                  rw [ela]
                  exact eqBytes_same r1 r2 (fun i _ => by first | rfl | simp [HI.out.o1, HI.out.o2])
                clear ela
                go_wp2_with fail
                refine HEQ.out.mono ?_
                rintro e w9 ⟨rfl, f9⟩
                have hI9 := HI.out.fresh f9
                obtain ⟨ob, eob⟩ : ∃ ob, ob = pE d sts ts (p + k1) := ⟨_, rfl⟩
                have HV1 := hidd (over_any (hI9.fam.st 0 (by omega)))
                have HV2 := hidd (over_any (hI9.fam.st 1 (by omega)))
                rw [eS0.out, HI.out.e1, ← eob] at HV1
                rw [eS1.out, HI.out.e2, ← eob] at HV2
                have HI9 := hidd hI9
                clear eob hI9 f9 HEQ
                have hbb : (ob != ob) = false := by simp
                go_wp2_with fail
                refine HV1.out.mono ?_
                rintro e w10 ⟨rfl, hw10⟩
                rw [hw10]
                clear hw10
                go_wp2_with fail
                refine HV2.out.mono ?_
                rintro e w11 ⟨rfl, hw11⟩
                rw [hw11]
                clear hw11
                go_wp2
                go_roundw
                case rel => exact ⟨p + k1, q + 1, V, L, O, by omega, by omega, by go_num, by go_num, EV.out.symm, EH3.out.symm, HI9⟩
                case measure => simp [intOf]; omega
      · obtain rfl : p = n := by omega
        have hpl := HLM.out p
        have hI := HI.out
        have h18 := waN_18 HCST.out.ok (pX d sts ts p)
        have hxl : (pX d sts ts p).length ≤ 18 := by
          have := p_stl (sts := sts) HCST.out.byt ts p
          unfold Stl at this
          split at this
          · rw [this]; simp
          · omega
        have HC1 := hidd (close_any (hI.fam.sta (j := 0) (by omega)))
        obtain ⟨a0, c0, e0, _⟩ := OwnB.rda (hI.fam.own 0 (by omega))
        rw [eS0.out] at HC1
        go_wp2_with fail
        refine HC1.out.mono ?_
        rintro e w5 ⟨rfl, hS5, hO5, hc5⟩
        rw [← eS0.out] at hS5 hc5
        have hf5 := hI.fam.close (j := 0) (by omega) hS5 hc5
        obtain ⟨x5, y5, e5, r5⟩ := OwnB.rda hO5
        have HJ := hidd (ljoin_any (hf5.own 2 (by omega)) r5 (fun b off e e2 => by
          subst e
          (repeat rw [pt_ne _ _ (by decide)] at e2)
          exact hI.fam.off 0 2 (by omega) (by omega) (by decide) b (by rw [e5]; rfl) e2) (by
          rw [pt_ne _ _ (by decide), hI.x1, hI.o1]; omega))
        (repeat rw [pt_ne _ _ (by decide)] at HJ); rw [EV.out, ← e5, e0] at HJ
        rw [e0]
        obtain ⟨l0, el0⟩ : ∃ l0, l0 = (L 0).length := ⟨_, rfl⟩
        rw [← el0] at HJ ⊢
        clear HC1 hS5 hO5 hc5 r5 el0
        go_wp2_with fail
        refine HJ.out.mono ?_
        rintro e w6 ⟨v6, rfl, hj6⟩
        have hf6 := hf5.join (i := 2) (by omega) (by omega) (by rw [pt_ne _ _ (by decide), EV.out]; exact hj6)
        obtain ⟨a6, c6, ev6, _⟩ := OwnB.rda hj6.own
        subst ev6
        have HC2 := hidd (close_any (hf6.sta (j := 1) (by omega)))
        obtain ⟨a1, c1, e1, _⟩ := OwnB.rda (hI.fam.own 1 (by omega))
        rw [eS1.out] at HC2; (repeat rw [pt_ne _ _ (by decide)] at HC2)
        obtain ⟨l6, el6⟩ : ∃ l6, l6 = (L 2 ++ L 0).length := ⟨_, rfl⟩
        rw [← el6] at hf6 ⊢
        have EL6 := hidd el6
        clear HJ hj6 el6
        go_wp2_with fail
        refine HC2.out.mono ?_
        rintro e w7 ⟨rfl, hS7, hO7, hc7⟩
        rw [← eS1.out] at hS7 hc7
        have hf7 := hf6.close (j := 1) (by omega) hS7 hc7
        obtain ⟨x7, y7, e7, r7⟩ := OwnB.rda hO7
        have HJ := hidd (ljoin_any (hf7.own 3 (by omega)) r7 (fun b off e e2 => by
          subst e
          (repeat rw [pt_ne _ _ (by decide)] at e2)
          exact hI.fam.off 1 3 (by omega) (by omega) (by decide) b (by rw [e7]; rfl) e2) (by
          rw [pt_ne _ _ (by decide), pt_ne _ _ (by decide), pt_ne _ _ (by decide), hI.x2, hI.o2]; omega))
        (repeat rw [pt_ne _ _ (by decide)] at HJ); rw [EV'.out, ← e7, e1] at HJ
        rw [e1]
        obtain ⟨l1, el1⟩ : ∃ l1, l1 = (L 1).length := ⟨_, rfl⟩
        rw [← el1] at HJ ⊢
        clear HC2 hS7 hO7 hc7 r7 el1
        go_wp2_with fail
        refine HJ.out.mono ?_
        rintro e w8 ⟨v8, rfl, hj8⟩
        have hf8 := hf7.join (i := 3) (by omega) (by omega) (by rw [pt_ne _ _ (by decide), pt_ne _ _ (by decide), pt_ne _ _ (by decide), EV'.out]; exact hj8)
        obtain ⟨a8, c8, ev8, r8⟩ := OwnB.rda hj8.own
        subst ev8
        have hsm : L 3 ++ L 1 = L 2 ++ L 0 := by rw [hI.o1, hI.o2, hI.x1, hI.x2]
        rw [hsm, ← EL6.out] at hf8 r8
        rw [hsm, ← EL6.out]
        have hA8 := hf8.own 2 (by omega)
        (repeat rw [pt_ne _ _ (by decide)] at hA8); rw [pt_at] at hA8; (repeat rw [pt_ne _ _ (by decide)] at hA8); rw [pt_at] at hA8
        have HEQ : Hid (Calls Try.prog 18 #[.slice a6 l6 c6, .slice a8 l6 c8] w8 fun e w' => e = .returned (.bool true) ∧ Below w8.heap.size w8 w') := by
          obtain ⟨x9, y9, e9, r9⟩ := OwnB.rda hA8
          injection e9 with e9 _ e9'
          subst e9 e9'
          rw [← EL6.out] at r9
          exact eqBytes_same r9 r8 (fun i _ => rfl)
        clear HJ hj8 hA8 r8
        go_wp2_with fail
        refine HEQ.out.mono ?_
        rintro e w9 ⟨rfl, f9⟩
        have hf9 := hf8.fresh f9
        have HV1 := hidd (over_any (hf9.st 0 (by omega)))
        have HV2 := hidd (over_any (hf9.st 1 (by omega)))
        have HC3 := hidd (close_any (hf9.sta (j := 0) (by omega)))
        rw [eS0.out] at HV1 HC3
        rw [eS1.out] at HV2
        have t0 : (pt (pt O 0 true) 1 true) 0 = true := by rw [pt_ne _ _ (by decide), pt_at]
        have t1 : (pt (pt O 0 true) 1 true) 1 = true := pt_at _ _ _
        have v0 : ∀ a b : Value, (pt (pt (pt (pt V 0 (.slice none 0 0)) 2 a) 1 (.slice none 0 0)) 3 b) 0 = .slice none 0 0 := fun a b => by rw [pt_ne _ _ (by decide), pt_ne _ _ (by decide), pt_ne _ _ (by decide), pt_at]
        rw [t0] at HV1
        rw [t1] at HV2
        rw [v0] at HC3
        have HB9 := HFIN.out w9 hf9.chg
        have HC3' : Hid (∀ w', Chg w9 w' (fun b => b = S1) → Below w.heap.size w w') := fun w' c => c.below HB9 HB9.size (fun b e => by omega)
        clear HEQ f9 t0 t1 v0 hf9 hf8 hf7 hf6 hf5
        go_wp2_with fail
        refine HV1.out.mono ?_
        rintro e w10 ⟨rfl, hw10⟩
        rw [hw10]
        clear hw10
        go_wp2_with fail
        refine HV2.out.mono ?_
        rintro e w11 ⟨rfl, hw11⟩
        rw [hw11]
        clear hw11
        go_wp2_with fail
        refine HC3.out.mono ?_
        rintro e w12 ⟨rfl, _, _, hc12⟩
        have hB12 := HC3'.out w12 hc12
        go_wp2
        go_ret
        exact ⟨rfl, hB12⟩
  · have HNW : Hid (∀ w', Below w.heap.size w w' → Calls Try.prog 11 #[.agg #[.slice bo d.nb cb, .slice po d.np cp], .slice so k cs] w' fun e w'' => (∃ x, e = .returned (.tuple #[.pointer none, .int .i64 x]) ∧ x ≠ 0 ∧ (¬ d.Right → x = 50) ∧ (d.Right → x = 180)) ∧ Below w'.heap.size w' w'') := fun w' f => by
      have := new_bad (HB.out.fresh f) (HP.out.fresh f) (HS.out.fresh f) HLEN.out hRM
      rwa [← ek] at this
    rw [← ek]
    clear ek hRM
    go_enter Try.func4, Try.ntmps4
    go_wp2_with fail
    refine (HL1.out _).mono ?_
    rintro e w1 ⟨rfl, hw⟩
    rw [hw]
    clear hw
    go_wp2_with fail
    rw [← ew0] at hf0 q0 ⊢
    clear ew0
    refine (fixed_any w0).mono ?_
    rintro e w1 ⟨rfl, f1⟩
    have hF1 := fresh_trans hf0 f1
    have q1 := q0.of_block (f1.block _ q0.lt)
    clear q0 f1 hf0
    obtain ⟨y0, y1⟩ := row2 q1
    go_wp2_with fail
    refine (HNW.out w1 hF1).mono ?_
    rintro e w2 ⟨⟨x, rfl, hx, hx1, hx2⟩, f2⟩
    have hF2 := fresh_trans hF1 f2
    have q2 := q1.of_block (f2.block _ q1.lt)
    obtain ⟨z0, z1⟩ := row2 q2
    clear y0 y1
    go_wp2_with fail
    refine (HNW.out w2 hF2).mono ?_
    rintro e w3 ⟨⟨y, rfl, _, hy1, hy2⟩, f3⟩
    have hF3 := fresh_trans hF2 f3
    obtain rfl : y = x := by
      by_cases hR : d.Right
      · rw [hx2 hR, hy2 hR]
      · rw [hx1 hR, hy1 hR]
    have hx0 : (y != 0) = true := by simpa using hx
    have hxx : (y != y) = false := by simp
    clear hx1 hx2 hy1 hy2 z0 z1
    go_wp2
    go_ret
    exact ⟨rfl, hF3⟩
end Go.Proofs.Ytlbmgknlbhakoaa
