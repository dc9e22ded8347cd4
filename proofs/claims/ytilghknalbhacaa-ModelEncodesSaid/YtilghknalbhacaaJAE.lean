import Derived.Test.YtilghknalbhacaaJAC
import Derived.Test.YtilghknalbhacaaJAD
import Derived.Laws.RangeAny
import Derived.Laws.BytesArg
import Derived.Lib.SlBytesConst
import Derived.Test.YtilghknalbhacaaJAA
namespace Go.Proofs.Ytilghknalbhacaa
open Go.RowKit
/-! bytes.Equal, HasPrefix, CutPrefix; the reader's meet and take. -/
theorem conv_str {w : World} {ao : Option Addr} {l : List Int} {cap : Nat} (h : RdA w ao 1 l.length cap (bV l)) : (convert 35 9 (.slice ao l.length cap)).run Try.prog w = .ok (.string (strOfNums l)) w := by
  by_cases h0 : 0 < l.length
  · obtain ⟨b, off, rfl, hc⟩ := h.one h0
    exact run_convert_bytes_arg (P := Try.prog) w 35 5 Try.underlying35 Try.underlying5 b off l.length cap l rfl hc 9 Try.underlying9
  · obtain rfl : l = [] := by cases l with
      | nil => rfl
      | cons a r => simp at h0
    cases ao with
    | none => exact run_convert_bytes_nil (P := Try.prog) w 35 5 Try.underlying35 Try.underlying5 0 cap 9 Try.underlying9
    | some a =>
      rw [run_convert_bytes_string w 35 9 5 _ _ cap Try.underlying35 Try.underlying5 Try.underlying9, run_bytesToString w a _ cap [] (by simpa using run_loadCells_list (P := Try.prog) w a [] (by simp))]
      rfl
theorem u8_inj {x y : Int} (hx : 0 ≤ x ∧ x < 256) (hy : 0 ≤ y ∧ y < 256) (h : UInt8.ofNat x.toNat = UInt8.ofNat y.toNat) : x = y := by
  have := congrArg UInt8.toNat h
  simp only [UInt8.toNat_ofNat'] at this
  omega
theorem map_inj : ∀ {a b : List Int}, Byt a → Byt b → a.map (fun n => UInt8.ofNat n.toNat) = b.map (fun n => UInt8.ofNat n.toNat) → a = b
  | [], [], _, _, _ => rfl
  | [], _ :: _, _, _, h => by simp at h
  | _ :: _, [], _, _, h => by simp at h
  | x :: a, y :: b, ha, hb, h => by
    simp only [List.map_cons, List.cons.injEq] at h
    rw [u8_inj (ha x (by simp)) (hb y (by simp)) h.1, map_inj (fun z hz => ha z (by simp [hz])) (fun z hz => hb z (by simp [hz])) h.2]
theorem str_eq {a b : List Int} (ha : Byt a) (hb : Byt b) : ((strOfNums a).toList == (strOfNums b).toList) = decide (a = b) := by
  rw [ByteArray.toList_eq, ByteArray.toList_eq, strOfNums_data, strOfNums_data]
  by_cases h : a = b
  · subst h; simp
  · have : ¬ (a.map (fun n => UInt8.ofNat n.toNat) = b.map (fun n => UInt8.ofNat n.toNat)) := fun e => h (map_inj ha hb e)
    simp [h, this]
theorem beq_any {w : World} {ao bo : Option Addr} {a b : List Int} {ca cb : Nat} (ha : RdA w ao 1 a.length ca (bV a)) (hb : RdA w bo 1 b.length cb (bV b)) (ba : Byt a) (bb : Byt b) :
    Calls Try.prog 102 #[.slice ao a.length ca, .slice bo b.length cb] w fun e w' => e = .returned (.bool (decide (a = b))) ∧ w' = w := by
  have h1 := conv_str ha
  have h2 := conv_str hb
  have he := str_eq ba bb
  go_enter Try.func102, Try.ntmps102
  go_wp2
  go_ret
  simp
theorem Byt.drop {L : List Int} (h : Byt L) (n : Nat) : Byt (L.drop n) := fun x hx => h x (List.mem_of_mem_drop hx)
theorem Byt.take {L : List Int} (h : Byt L) (n : Nat) : Byt (L.take n) := fun x hx => h x (List.mem_of_mem_take hx)
theorem bV_take (L : List Int) (n : Nat) {j : Nat} (h : j < n) : bV L j = bV (L.take n) j := by
  unfold bV
  rw [List.getD_eq_getElem?_getD, List.getD_eq_getElem?_getD, List.getElem?_take_of_lt h]
theorem bV_drop (L : List Int) (n j : Nat) : bV L (n + j) = bV (L.drop n) j := by
  unfold bV
  rw [List.getD_eq_getElem?_getD, List.getD_eq_getElem?_getD, List.getElem?_drop]
theorem pre_take (L X : List Int) : decide (X.take L.length = L) = L.isPrefixOf X := by
  by_cases e : L <+: X
  · rw [List.isPrefixOf_iff_prefix.2 e]
    simp
    exact (List.prefix_iff_eq_take.1 e).symm
  · have : L.isPrefixOf X = false := by
      cases q : L.isPrefixOf X
      · rfl
      · exact absurd (List.isPrefixOf_iff_prefix.1 q) e
    rw [this]
    simp
    exact fun q => e (List.prefix_iff_eq_take.2 q.symm)
set_option maxRecDepth 20000 in
set_option maxHeartbeats 1600000 in
/-- HasPrefix: t a text that is read, s what should stand at its head -/
theorem hasp_any {w : World} {ao bo : Option Addr} {t s : List Int} {ca cb : Nat} (ht : RdA w ao 1 t.length ca (bV t)) (hs : RdA w bo 1 s.length cb (bV s)) (bt : Byt t) (bs : Byt s) :
    Calls Try.prog 91 #[.slice ao t.length ca, .slice bo s.length cb] w fun e w' => e = .returned (.bool (s.isPrefixOf t)) ∧ w' = w := by
  have n1 := ht.le
  have n2 := ht.top
  have n3 := hs.le
  have n4 := hs.top
  unfold maxLen at n2 n4
  by_cases hl : s.length ≤ t.length
  · have hd : RdA w ao 1 (t.take s.length).length ca (bV (t.take s.length)) := by
      rw [List.length_take, Nat.min_eq_left hl]
      refine ⟨by omega, ht.top, fun h0 => ?_⟩
      obtain ⟨b, o, e, hc⟩ := ht.at_ (by omega)
      exact ⟨b, o, e, fun j hj => by rw [hc j (by omega), bV_take t s.length (by omega)]⟩
    have H := hidd (beq_any hd hs (bt.take _) bs)
    rw [List.length_take, Nat.min_eq_left hl, pre_take] at H
    obtain ⟨r, hr⟩ : ∃ r, r = s.isPrefixOf t := ⟨_, rfl⟩
    rw [← hr] at H ⊢
    obtain ⟨L, eL⟩ : ∃ L, L = t.length := ⟨_, rfl⟩
    obtain ⟨M, eM⟩ : ∃ M, M = s.length := ⟨_, rfl⟩
    rw [← eL, ← eM] at hl
    rw [← eM] at H n3
    rw [← eL] at n1
    rw [← eL, ← eM]
    clear ht hs hd eL eM hr
    have i1 : (M : Int) ≤ (L : Int) := by omega
    have i2 : (M : Int) ≤ (ca : Int) := by omega
    have d1 : decide ((M : Int) ≤ (L : Int)) = true := decide_eq_true i1
    go_enter Try.func91, Try.ntmps91
    go_wp2_with (go_at_call 102; refine H.out.mono ?_; rintro e w9 ⟨rfl, h9⟩; rw [h9]; clear h9 w9)
    go_ret
    simp
  · have e0 : s.isPrefixOf t = false := by
      cases q : s.isPrefixOf t
      · rfl
      · exact absurd (List.isPrefixOf_iff_prefix.1 q).length_le hl
    rw [e0]
    obtain ⟨L, eL⟩ : ∃ L, L = t.length := ⟨_, rfl⟩
    obtain ⟨M, eM⟩ : ∃ M, M = s.length := ⟨_, rfl⟩
    rw [← eL, ← eM] at hl
    rw [← eL, ← eM]
    clear ht hs eL eM e0 n1 n3
    have d1 : decide ((M : Int) ≤ (L : Int)) = false := decide_eq_false (by omega)
    go_enter Try.func91, Try.ntmps91
    go_wp2
    go_ret
    simp
end Go.Proofs.Ytilghknalbhacaa
namespace Go.Proofs.Ytilghknalbhacaa
open Go.RowKit
/-! What a call may have changed. -/
/-- What a call may have changed among the blocks that were there: those of S alone. -/
structure Chg (w w' : World) (S : Nat → Prop) : Prop where
  low : Below 0 w w'
  block : ∀ b, b < w.heap.size → ¬ S b → w'.heap[b]? = w.heap[b]?
theorem Chg.size {w w' : World} {S : Nat → Prop} (h : Chg w w' S) : w.heap.size ≤ w'.heap.size := h.low.size
theorem Chg.trans {a b c : World} {S T : Nat → Prop} (h : Chg a b S) (k : Chg b c T) (hT : ∀ x, x < a.heap.size → T x → S x) : Chg a c S :=
  ⟨h.low.trans k.low, fun x hx hS => (k.block x (Nat.lt_of_lt_of_le hx h.low.size) (fun t => hS (hT x hx t))).trans (h.block x hx hS)⟩
theorem Chg.of_below {w w' : World} (S : Nat → Prop) (f : Below w.heap.size w w') : Chg w w' S := ⟨⟨f.os, f.tape, f.output, f.size, fun _ h => absurd h (by omega)⟩, fun b hb _ => f.block b hb⟩
theorem Chg.of_app {w w' : World} {v v' : Value} (h : App w w' v v') : Chg w w' (fun b => v.ownBlock = some b) := ⟨⟨h.grown.os, h.grown.tape, h.grown.output, h.grown.size, fun _ h => absurd h (by omega)⟩, fun b hb hS => h.grown.block b hb (fun e => hS e.symm)⟩
theorem Chg.of_set (w : World) (g j : Nat) (x : Value) : Chg w (w.setCell ⟨g, j, none⟩ x) (fun b => b = g) := ⟨(Below.refl 0 w).setCell (Nat.zero_le _) _, fun _ _ hS => Below.heap_setCell _ _ _ _ hS⟩
theorem Chg.refl (w : World) (S : Nat → Prop) : Chg w w S := Chg.of_below S (Below.refl _ _)
theorem Chg.imp {w w' : World} {S T : Nat → Prop} (h : Chg w w' S) (k : ∀ b, b < w.heap.size → S b → T b) : Chg w w' T := ⟨h.low, fun b hb hT => h.block b hb (fun s => hT (k b hb s))⟩
theorem Chg.pre {a b c : World} {S : Nat → Prop} (f : Below a.heap.size a b) (h : Chg b c S) : Chg a c S := (Chg.of_below S f).trans h (fun _ _ t => t)
theorem Chg.post {a b c : World} {S : Nat → Prop} (h : Chg a b S) (f : Below b.heap.size b c) : Chg a c S := h.trans (Chg.of_below (fun _ => False) f) (fun _ _ t => t.elim)
theorem Chg.row {w w' : World} {S : Nat → Prop} (h : Chg w w' S) {b n : Nat} {t : TypeId} {F : Nat → Value} (hr : w.rowIs b t n F) (hb : ¬ S b) : w'.rowIs b t n F := hr.of_block (h.block b hr.lt hb)
theorem Chg.of_setCells (g : Nat) : ∀ (vs : List Value) (o : Nat) (w : World), Chg w (w.setCells g o vs) (fun b => b = g)
  | [], _, w => Chg.refl w _
  | v :: r, o, w => (Chg.of_set w g o v).trans (Chg.of_setCells g r (o + 1) _) (fun _ _ t => t)
theorem Chg.below {w w' : World} {S : Nat → Prop} (h : Chg w w' S) {B : Nat} {a : World} (hb : Below B a w) (hB : B ≤ w.heap.size) (hS : ∀ x, S x → B ≤ x) : Below B a w' :=
  hb.trans ⟨h.low.os, h.low.tape, h.low.output, h.low.size, fun k hk => h.block k (by omega) (fun s => by have := hS k s; omega)⟩
/-- 'Own' is kept where the list's block is. -/
theorem Own.chg {w w' : World} {S : Nat → Prop} (c : Chg w w' S) {base : Nat} {e : TypeId} {sz : Nat} {v : Value} {n : Nat} {cs : Nat → Value} (h : Own w base e sz v n cs) (hS : ∀ b, v.ownBlock = some b → ¬ S b) : Own w' base e sz v n cs := by
  refine ⟨h.1, ?_⟩
  rcases h.2 with hn | ⟨g, cap, cur, rfl, hb, hgg, rest⟩
  · exact .inl hn
  · refine .inr ⟨g, cap, cur, rfl, hb, ?_, rest⟩
    rw [c.block g (Array.getElem?_eq_some_iff.1 hgg).1 (hS g (by simp [Value.ownBlock]))]; exact hgg
theorem Chg.cell {w w' : World} {T : Nat → Prop} (h : Chg w w' T) {b o : Nat} {v : Value} (hc : w.cell? ⟨b, o, none⟩ = some v) (hb : ¬ T b) : w'.cell? ⟨b, o, none⟩ = some v := by
  rw [← hc]; unfold World.cell?; rw [h.block b (lt_of_cell hc) hb]
theorem RdA.chg {w w' : World} {T : Nat → Prop} {ao : Option Addr} {sz n cap : Nat} {cs : Nat → Value} (h : RdA w ao sz n cap cs) (c : Chg w w' T) (hT : ∀ b o, ao = some ⟨b, o, none⟩ → 0 < n → ¬ T b) : RdA w' ao sz n cap cs := by
  refine ⟨h.le, h.top, fun hn => ?_⟩
  obtain ⟨b, o, e, hc⟩ := h.at_ hn
  exact ⟨b, o, e, fun j hj => c.cell (hc j hj) (hT b o e hn)⟩
end Go.Proofs.Ytilghknalbhacaa
namespace Go.Proofs.Ytilghknalbhacaa
open Go.RowKit
/-! CutPrefix; the reader: meet, take. -/
theorem cell_alt {w : World} {b o c n : Nat} {X : List Int} (h : RdA w (some ⟨b, o, none⟩) 1 X.length c (bV X)) (hn : n ≤ X.length) {g : Nat} (hg : n < X.length → g = o + n) : RdA w (some ⟨b, g, none⟩) 1 (X.drop n).length (c - n) (bV (X.drop n)) := by
  have h1 := h.le
  have h2 := h.top
  unfold maxLen at h2
  rw [List.length_drop]
  refine ⟨by omega, by unfold maxLen; omega, fun h0 => ⟨b, g, rfl, fun j hj => ?_⟩⟩
  obtain ⟨b', o', e, hc⟩ := h.at_ (by omega)
  cases e
  rw [hg (by omega), Nat.add_assoc, hc (n + j) (by omega), bV_drop]
set_option maxRecDepth 20000 in
set_option maxHeartbeats 1600000 in
theorem cutp_no {w : World} {ao bo : Option Addr} {X L : List Int} {c cb : Nat} (hX : RdA w ao 1 X.length c (bV X)) (hL : RdA w bo 1 L.length cb (bV L)) (bX : Byt X) (bL : Byt L) (hp : L.isPrefixOf X = false) :
    Calls Try.prog 65 #[.slice ao X.length c, .slice bo L.length cb] w fun e w' => e = .returned (.tuple #[.slice ao X.length c, .bool false]) ∧ w' = w := by
  have H := hidd (hasp_any hX hL bX bL)
  rw [hp] at H
  clear hX hL hp
  go_enter Try.func65, Try.ntmps65
  go_wp2_with (go_at_call 91; refine H.out.mono ?_; rintro e w9 ⟨rfl, h9⟩; rw [h9]; clear h9 w9)
  go_ret2
  exact ⟨rfl, rfl⟩
set_option maxRecDepth 20000 in
set_option maxHeartbeats 1600000 in
theorem cutp_yes {w : World} {ao bo : Option Addr} {X L : List Int} {c cb : Nat} (hX : RdA w ao 1 X.length c (bV X)) (hL : RdA w bo 1 L.length cb (bV L)) (bX : Byt X) (bL : Byt L) (hp : L.isPrefixOf X = true) (h0 : 0 < L.length) :
    Calls Try.prog 65 #[.slice ao X.length c, .slice bo L.length cb] w fun e w' => ∃ b o g, ao = some ⟨b, o, none⟩ ∧ e = .returned (.tuple #[.slice (some ⟨b, g, none⟩) (X.length - L.length) (c - L.length), .bool true]) ∧ RdA w (some ⟨b, g, none⟩) 1 (X.drop L.length).length (c - L.length) (bV (X.drop L.length)) ∧ w' = w := by
  have hle := (List.isPrefixOf_iff_prefix.1 hp).length_le
  obtain ⟨b, o, rfl, _⟩ := hX.at_ (by omega)
  have HX := hidd hX
  have H := hidd (hasp_any hX hL bX bL)
  rw [hp] at H
  have n1 := hX.le
  have n2 := hX.top
  unfold maxLen at n2
  obtain ⟨x, ex⟩ : ∃ x, Hid (x = X.length) := ⟨_, rfl⟩
  obtain ⟨l, el⟩ : ∃ l, Hid (l = L.length) := ⟨_, rfl⟩
  have HQ : Hid (∀ g, (l < x → g = o + l) → RdA w (some ⟨b, g, none⟩) 1 (X.drop L.length).length (c - l) (bV (X.drop L.length))) := fun g hg => by
    rw [el.out]
    refine cell_alt HX.out hle (fun h => ?_)
    rw [hg (by rw [el.out, ex.out]; exact h), el.out]
  rw [← ex.out, ← el.out] at H
  rw [← el.out, ← ex.out] at hle
  rw [← el.out] at h0
  rw [← ex.out] at n1
  rw [← ex.out, ← el.out]
  rw [← el.out] at HQ
  clear hX hL hp
  have i1 : (l : Int) ≤ (x : Int) := by omega
  have i0 : (0 : Int) ≤ (l : Int) := by omega
  by_cases hc : l = c
  · subst hc
    go_enter Try.func65, Try.ntmps65
    go_wp2_with (go_at_call 91; refine H.out.mono ?_; rintro e w9 ⟨rfl, h9⟩; rw [h9]; clear h9 w9)
    go_ret2
    refine ⟨b, o, o, rfl, ?_, HQ.out o (fun h => by omega), rfl⟩
    rw [show x - l = 0 by omega, Nat.sub_self]
    rfl
  · have i3 : ¬ (l : Int) = (c : Int) := by omega
    go_enter Try.func65, Try.ntmps65
    go_wp2_with (go_at_call 91; refine H.out.mono ?_; rintro e w9 ⟨rfl, h9⟩; rw [h9]; clear h9 w9)
    go_ret2
    exact ⟨b, o, o + l, rfl, rfl, HQ.out (o + l) (fun _ => rfl), rfl⟩
/-- the reader in memory: at the place p of the bytes B -/
structure Rdr (w : World) (r bb : Nat) (B : List Int) (p : Nat) (bad : Bool) : Prop where
  ex : ∃ ao c, w.rowIs r 70 2 (fun i => if i = 0 then .slice ao (B.length - p) c else .bool bad) ∧ RdA w ao 1 (B.drop p).length c (bV (B.drop p)) ∧ ∀ b o, ao = some ⟨b, o, none⟩ → 0 < B.length - p → b = bb
  ne : bb ≠ r
  le : p ≤ B.length
  byt : Byt B
theorem rowIs_lt {w : World} {b n : Nat} {t : TypeId} {f : Nat → Value} (h : w.rowIs b t n f) : b < w.heap.size := h.lt
theorem Rdr.fresh {w w' : World} {r bb : Nat} {B : List Int} {p : Nat} {bad : Bool} (h : Rdr w r bb B p bad) (f : Below w.heap.size w w') : Rdr w' r bb B p bad := by
  obtain ⟨ao, c, h1, h2, h3⟩ := h.ex
  exact ⟨⟨ao, c, h1.of_block (f.block _ h1.lt), h2.fresh f, h3⟩, h.ne, h.le, h.byt⟩
theorem Rdr.lt {w : World} {r bb : Nat} {B : List Int} {p : Nat} {bad : Bool} (h : Rdr w r bb B p bad) : r < w.heap.size := by
  obtain ⟨ao, c, h1, h2, h3⟩ := h.ex
  exact h1.lt
set_option maxRecDepth 20000 in
set_option maxHeartbeats 1600000 in
theorem meet_any {w : World} {r bb : Nat} {B : List Int} {p : Nat} {bad : Bool} (h : Rdr w r bb B p bad) {bo : Option Addr} {L : List Int} {cb : Nat} (hL : RdA w bo 1 L.length cb (bV L)) (bL : Byt L) (h0 : 0 < L.length) :
    Calls Try.prog 35 #[.pointer (some ⟨r, 0, none⟩), .slice bo L.length cb] w fun e w' => e = .returned (.tuple #[]) ∧ Rdr w' r bb B (metP B L p) (bad || !metB B L p) ∧ Chg w w' (fun b => b = r) := by
  obtain ⟨ao, c, hr, hx, hne⟩ := h.ex
  have hp := h.le
  have hlen : (B.drop p).length = B.length - p := List.length_drop
  have c0 : w.cell? ⟨r, 0, none⟩ = some (.slice ao (B.length - p) c) := hr.cell (i := 0) (by decide)
  have c1 : w.cell? ⟨r, 1, none⟩ = some (.bool bad) := hr.cell (i := 1) (by decide)
  have fz := hr.frozen
  obtain ⟨N, HN⟩ : ∃ N, Hid (N = B.length - p) := ⟨_, rfl⟩
  obtain ⟨l, HL⟩ : ∃ l, Hid (l = L.length) := ⟨_, rfl⟩
  have HR := hidd hr
  have HX := hidd hx
  have HNE := hidd hne
  have bB := h.byt
  have hbb := h.ne
  cases hm : metB B L p
  · have H := hidd (cutp_no hx hL (bB.drop p) bL hm)
    rw [hlen, ← HN.out, ← HL.out] at H
    rw [← HN.out] at c0
    rw [← HL.out]
    have HG : Hid (Rdr ((w.setCell ⟨r, 0, none⟩ (.slice ao N c)).setCell ⟨r, 1, none⟩ (.bool true)) r bb B (metP B L p) (bad || !false)) := by
      have e1 : metP B L p = p := by unfold metP; rw [hm]; rfl
      rw [e1]
      refine ⟨⟨ao, c, ?_, ?_, HNE.out⟩, hbb, hp, bB⟩
      · refine ((HR.out.set 0 _).set 1 _).congr (fun i hi => ?_)
        rw [HN.out]
        rcases i with _ | _ | i
        · rfl
        · simp
        · omega
      · exact RdA.chg HX.out ((Chg.of_set w r 0 _).trans (Chg.of_set _ r 1 _) (fun _ _ e => e)) (fun b o e h0 => by rw [HNE.out b o e (by rw [hlen] at h0; exact h0)]; exact hbb)
    have HC : Hid (Chg w ((w.setCell ⟨r, 0, none⟩ (.slice ao N c)).setCell ⟨r, 1, none⟩ (.bool true)) (fun b => b = r)) := (Chg.of_set w r 0 _).trans (Chg.of_set _ r 1 _) (fun _ _ e => e)
    clear hr hx hne hL hm h
    go_enter Try.func35, Try.ntmps35
    cases bad
    · go_wp2_with (go_at_call 65; refine H.out.mono ?_; rintro e w9 ⟨rfl, h9⟩; rw [h9]; clear h9 w9)
      go_end0
      exact ⟨rfl, HG.out, HC.out⟩
    · go_wp2_with (go_at_call 65; refine H.out.mono ?_; rintro e w9 ⟨rfl, h9⟩; rw [h9]; clear h9 w9)
      go_end0
      exact ⟨rfl, HG.out, HC.out⟩
  · have hm' : L.isPrefixOf (B.drop p) = true := hm
    have hle := (List.isPrefixOf_iff_prefix.1 hm').length_le
    rw [hlen] at hle
    have H := hidd (cutp_yes hx hL (bB.drop p) bL hm' h0)
    rw [hlen, ← HN.out, ← HL.out] at H
    rw [← HN.out] at c0
    rw [← HL.out]
    have HG : Hid (∀ g b o, ao = some ⟨b, o, none⟩ → RdA w (some ⟨b, g, none⟩) 1 ((B.drop p).drop l).length (c - l) (bV ((B.drop p).drop l)) → Rdr ((w.setCell ⟨r, 0, none⟩ (.slice (some ⟨b, g, none⟩) (N - l) (c - l))).setCell ⟨r, 1, none⟩ (.bool bad)) r bb B (metP B L p) (bad || !true)) := by
      intro g b o hao hq
      have e1 : metP B L p = p + L.length := by unfold metP; rw [hm]; rfl
      rw [e1]
      have eb : (bad || !true) = bad := by cases bad <;> rfl
      rw [eb]
      have hb : b = bb := HNE.out b o hao (by omega)
      rw [List.drop_drop, HL.out] at hq
      refine ⟨⟨some ⟨b, g, none⟩, c - l, ?_, ?_, fun b' o' e' _ => by cases e'; exact hb⟩, hbb, by omega, bB⟩
      · refine ((HR.out.set 0 _).set 1 _).congr (fun i hi => ?_)
        rw [HN.out, HL.out]
        rcases i with _ | _ | i
        · simp
          omega
        · simp
        · omega
      · rw [HL.out]
        exact RdA.chg hq ((Chg.of_set w r 0 _).trans (Chg.of_set _ r 1 _) (fun _ _ e => e)) (fun b' o' e' _ => by cases e'; rw [hb]; exact hbb)
    have HC : Hid (∀ v, Chg w ((w.setCell ⟨r, 0, none⟩ v).setCell ⟨r, 1, none⟩ (.bool bad)) (fun b => b = r)) := fun v => (Chg.of_set w r 0 _).trans (Chg.of_set _ r 1 _) (fun _ _ e => e)
    clear hr hx hne hL hm hm' h
    go_enter Try.func35, Try.ntmps35
    cases bad
    · go_wp2_with (go_at_call 65; refine H.out.mono ?_; rintro e w9 ⟨b, o, g, hao, rfl, hq, h9⟩; rw [h9]; clear h9 w9)
      go_end0
      exact ⟨rfl, HG.out g b o hao hq, HC.out _⟩
    · go_wp2_with (go_at_call 65; refine H.out.mono ?_; rintro e w9 ⟨b, o, g, hao, rfl, hq, h9⟩; rw [h9]; clear h9 w9)
      go_end0
      exact ⟨rfl, HG.out g b o hao hq, HC.out _⟩
end Go.Proofs.Ytilghknalbhacaa
