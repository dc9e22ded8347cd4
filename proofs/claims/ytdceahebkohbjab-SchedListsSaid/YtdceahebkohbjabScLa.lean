import Derived.Test.YtdceahebkohbjabScMu
import Derived.Test.YtdceahebkohbjabScMb
namespace Go.Proofs.Ytdceahebkohbjab
open Go.RowKit
/-! again: the lists are written over and handed in again. -/
theorem own_blk {w : World} {base : Nat} {e : TypeId} {sz : Nat} {u : Option Addr} {n c : Nat} {cs : Nat → Value} (h : Own w base e sz (.slice u n c) n cs) (hn : 0 < n) : ∃ g, u = some ⟨g, 0, none⟩ ∧ base ≤ g ∧ g < w.heap.size := by
  rcases h.2 with ⟨e, h0⟩ | ⟨g, cap, cur, e, hb, hg, _⟩
  · exact absurd h0 (by omega)
  · cases e
    exact ⟨g, rfl, hb, (Array.getElem?_eq_some_iff.1 hg).1⟩
theorem own_fz {w : World} {base : Nat} {e : TypeId} {sz : Nat} {g n c : Nat} {cs : Nat → Value} (h : Own w base e sz (.slice (some ⟨g, 0, none⟩) n c) n cs) : ∀ i, w.frozen? ⟨g, i, none⟩ = false := by
  rcases h.2 with ⟨e, _⟩ | ⟨g', cap, cur, e, hb, hg, _⟩
  · cases e
  · cases e
    intro i
    simp [World.frozen?, hg]
theorem Own.put {w : World} {base : Nat} {e : TypeId} {sz g cap n : Nat} {cs : Nat → Value} (h : Own w base e sz (.slice (some ⟨g, 0, none⟩) n cap) n cs) (j : Nat) (x : Value) : Own (w.setCell ⟨g, j, none⟩ x) base e sz (.slice (some ⟨g, 0, none⟩) n cap) n (fun i => if i = j then x else cs i) := by
  have := (World.ownsRow.stored h j x).1
  unfold Own
  have e1 : (List.range (n * sz)).map (fun i => if i = j then x else cs i) = ((List.range (n * sz)).map cs).set j x := by
    refine List.ext_getElem? (fun i => ?_)
    rw [List.getElem?_set]
    by_cases hi : i < n * sz
    · by_cases e : j = i
      · subst e
        simp [hi]
      · rw [if_neg e]
        simp [hi]
        exact fun q => absurd q.symm e
    · simp [hi]
      omega
  rw [e1]
  exact this
/-- seats with the same blocks -/
def smH (s t : Se) : Prop := s.ho = t.ho ∧ s.hn = t.hn ∧ s.hc = t.hc ∧ s.H = t.H
/-- the seats' list as it is written over: where it lies, and the blocks of each -/
structure SwI (w1 wr : World) (u : Option Addr) (n c : Nat) (S1 S2 : Nat → Se) : Prop where
  own : Own wr w1.heap.size 32 5 (.slice u n c) n (seF S2)
  sm : ∀ i, i < n → smH (S2 i) (S1 i)
  held : ∀ i, i < n → Own wr w1.heap.size 3 1 (.slice (S1 i).ho (S1 i).hn (S1 i).hc) (S1 i).hn (fun j => .int .i64 ((S1 i).H j))
theorem SwI.seats {w1 wr : World} {u : Option Addr} {n c : Nat} {S1 S2 : Nat → Se} (h : SwI w1 wr u n c S1 S2) : SeA wr u n c S2 :=
  ⟨own_rda h.own, fun i hi => (by
    obtain ⟨e1, e2, e3, e4⟩ := h.sm i hi
    rw [e1, e2, e3, e4]
    exact own_rda (h.held i hi))⟩
theorem SwI.chg {w1 wr wz : World} {u : Option Addr} {n c : Nat} {S1 S2 : Nat → Se} {T : Nat → Prop} (h : SwI w1 wr u n c S1 S2) (k : Chg wr wz T) (hT : ∀ x, T x → wr.heap.size ≤ x) : SwI w1 wz u n c S1 S2 :=
  ⟨h.own.chg k (fun x hx t => by have := (h.own.lt x hx).2; have := hT x t; omega), h.sm, fun i hi => (h.held i hi).chg k (fun x hx t => by have := ((h.held i hi).lt x hx).2; have := hT x t; omega)⟩
theorem CpS.sw {w1 w2 : World} {u : Option Addr} {n c : Nat} {S S1 : Nat → Se} (h : CpS w1 w2 (.slice u n c) n S S1) : SwI w1 w2 u n c S1 S1 :=
  ⟨h.own, fun _ _ => ⟨rfl, rfl, rfl, rfl⟩, fun i hi => (by
    have := h.held i hi
    rw [← er_hn (h.same i hi), ← er_H (h.same i hi)] at this
    exact this)⟩
/-- one seat's numbers are written over -/
theorem SwI.put {w1 wr : World} {g n c k : Nat} {S1 S2 : Nat → Se} (h : SwI w1 wr (some ⟨g, 0, none⟩) n c S1 S2) (v1 v2 : Int) : SwI w1 ((wr.setCell ⟨g, k * 5 + 3, none⟩ (.int .i64 v1)).setCell ⟨g, k * 5 + 1, none⟩ (.int .i64 v2)) (some ⟨g, 0, none⟩) n c S1 (updS S2 k { S2 k with wa := v1, kn := v2 }) := by
  have hc : Chg wr ((wr.setCell ⟨g, k * 5 + 3, none⟩ (.int .i64 v1)).setCell ⟨g, k * 5 + 1, none⟩ (.int .i64 v2)) (fun b => b = g) := (Chg.of_set wr g _ _).trans (Chg.of_set _ g _ _) (fun _ _ t => t)
  refine ⟨((h.own.put (k * 5 + 3) (.int .i64 v1)).put (k * 5 + 1) (.int .i64 v2)).congr (fun j hj => ?_), fun i hi => ?_, fun i hi => (h.held i hi).chg hc (fun x hx t => ?_)⟩
  · by_cases e : j / 5 = k
    · obtain ⟨r, hr, rfl⟩ : ∃ r, r < 5 ∧ j = k * 5 + r := ⟨j % 5, Nat.mod_lt _ (by decide), by omega⟩
      rw [seF_updk _ _ _ _ hr, seF_at _ _ _ hr]
      rcases five hr with rfl | rfl | rfl | rfl | rfl
      · rw [if_neg (by omega), if_neg (by omega)]; rfl
      · rw [if_pos (by omega)]; rfl
      · rw [if_neg (by omega), if_neg (by omega)]; rfl
      · rw [if_neg (by omega), if_pos (by omega)]; rfl
      · rw [if_neg (by omega), if_neg (by omega)]; rfl
    · rw [if_neg (by omega), if_neg (by omega)]
      unfold seF updS
      rw [if_neg e]
  · unfold updS
    by_cases e : i = k
    · rw [if_pos e, e]
      exact h.sm k (e ▸ hi)
    · rw [if_neg e]
      exact h.sm i hi
  · exact h.own.offT (h.held i hi) (by decide) x (by rw [t]; rfl) hx
structure FnQ (w3 W9 : World) (pb no nz : Nat) (f a b d : Nat → Int) (vO vZ : Value) : Prop where
  row : W9.rowIs pb 28 2 (two vO vZ)
  o1 : Own W9 w3.heap.size 3 1 vO no (fun i => .int .i64 (f i))
  o2 : Own W9 w3.heap.size 45 3 vZ nz (trF a b d)
theorem fin_again {w3 z W : World} {g : Nat} {bs bl bu ch tr : Int} {no nz : Nat} {f a b d : Nat → Int} {vO vZ : Value} {pb : Nat} {old : Array Value} (q3 : Own W z.heap.size 3 1 vO no (fun i => .int .i64 (f i))) (q4 : Own W z.heap.size 45 3 vZ nz (trF a b d)) (hs : (Below w3.heap.size w3 W ∧ W.cell? ⟨g, 0, none⟩ = some (.int .i64 bs) ∧ W.cell? ⟨g, 1, none⟩ = some (.int .i64 bl) ∧ W.cell? ⟨g, 2, none⟩ = some (.int .i64 bu) ∧ W.cell? ⟨g, 3, none⟩ = some (.int .i64 ch) ∧ W.cell? ⟨g, 4, none⟩ = some (.int .i64 tr))) (hold : W.heap[pb]? = some (.cells old 28 (0, 0))) (hosz : old.size = 2) (hpw : w3.heap.size ≤ pb) (hg : g < w3.heap.size) (hz : w3.heap.size ≤ z.heap.size) :
    (Below w3.heap.size w3 (W.setRow pb #[vO, vZ]) ∧ (W.setRow pb #[vO, vZ]).cell? ⟨g, 0, none⟩ = some (.int .i64 bs) ∧ (W.setRow pb #[vO, vZ]).cell? ⟨g, 1, none⟩ = some (.int .i64 bl) ∧ (W.setRow pb #[vO, vZ]).cell? ⟨g, 2, none⟩ = some (.int .i64 bu) ∧ (W.setRow pb #[vO, vZ]).cell? ⟨g, 3, none⟩ = some (.int .i64 ch) ∧ (W.setRow pb #[vO, vZ]).cell? ⟨g, 4, none⟩ = some (.int .i64 tr)) ∧ FnQ w3 (W.setRow pb #[vO, vZ]) pb no nz f a b d vO vZ := by
  have hrow : W.rowIs pb 28 2 (fun i => old.getD i undef) := ⟨old, hold, hosz, fun i hi => by simp [hosz, hi]⟩
  have hc := chg_setRow W pb #[vO, vZ]
  refine ⟨sc_set hs _ hpw hg, ⟨?_, (q3.chg hc (fun k hk e => q3.apart hrow (by decide) (by rw [hk, e]))).weaken hz, (q4.chg hc (fun k hk e => q4.apart hrow (by decide) (by rw [hk, e]))).weaken hz⟩⟩
  refine ⟨_, setRow_heap W pb old _ 28 (0, 0) hold, rfl, fun i hi => ?_⟩
  have : i = 0 ∨ i = 1 := by omega
  rcases this with rfl | rfl <;> rfl
set_option maxRecDepth 100000 in
set_option maxHeartbeats 8000000 in
theorem again_any {w : World} (c : Me) {ao po : Option Addr} {n cap m cp : Nat} {S : Nat → Se} {P : Nat → Int} (hS : SeA w ao n cap S) (hn : n * 56 ≤ 140737488351232) (hh : ∀ i, i < n → (S i).hn ≤ 17592186043904) (hP : RdA w po 1 m cp (fun i => .int .i64 (P i))) (hm : m ≤ 17592186043904) :
    Calls Try.prog 15 #[mV c, .slice ao n cap, .slice po m cp] w fun e w' => e = .returned (.bool true) ∧ Below w.heap.size w w' := by
  have HHH := hidd hh
  have HKN := hidd (fun (S2 : Nat → Se) (Q : Nat → Int) => known c n S2 m Q)
  obtain ⟨bs, bl, bu, ch, tr⟩ := c
  have HF := hidd (fresh_alloc w (.cells #[.int .i64 bs, .int .i64 bl, .int .i64 bu, .int .i64 ch, .int .i64 tr] 23))
  have HBX := hidd (box5 w (.int .i64 bs) (.int .i64 bl) (.int .i64 bu) (.int .i64 ch) (.int .i64 tr) 23)
  have HGL : Hid (w.heap.size < (w.alloc (.cells #[.int .i64 bs, .int .i64 bl, .int .i64 bu, .int .i64 ch, .int .i64 tr] 23)).heap.size) := by show _ < _; simp
  have HC1 := hidd (copyS_own (hS.fresh HF.out) hn hh)
  have HPF := hidd (hP.fresh HF.out)
  have hmv : mV ⟨bs, bl, bu, ch, tr⟩ = .agg #[.int .i64 bs, .int .i64 bl, .int .i64 bu, .int .i64 ch, .int .i64 tr] := rfl
  rw [hmv]
  clear hS hP hh hmv
  go_enter Try.func15, Try.ntmps15
  go_upto_region 1 with fail
  generalize w.alloc (.cells #[.int .i64 bs, .int .i64 bl, .int .i64 bu, .int .i64 ch, .int .i64 tr] 23) = w1 at *
  go_upto_region 2 with (go_at_call 12; with_reducible refine HC1.out.mono ?_; rintro e w2 ⟨u1, c1, S1, rfl, hcp, hb2⟩)
  have HB2 := hidd hb2
  have HSW2 := hidd hcp.sw
  have HHN : Hid (∀ i, i < n → (S1 i).hn ≤ 17592186043904) := fun i hi => by rw [er_hn (hcp.same i hi)]; exact HHH.out i hi
  have h0c : Hid (u1 = none → c1 = 0) := hcp.cap0
  have HCI := hidd (copyI_any (HPF.out.fresh hb2) hm)
  clear hcp hb2 HC1 HHH HPF
  go_upto_region 3 with (go_at_call 13; with_reducible refine HCI.out.mono ?_; rintro e w3 ⟨u2, c2, rfl, ho3, hb3⟩)
  have HO3 := hidd ho3
  have HB13 := hidd (HB2.out.trans (hb3.mono HB2.out.size))
  have HSW3 := hidd (HSW2.out.chg (Chg.of_below (fun _ => False) hb3) (fun _ t => t.elim))
  obtain ⟨t0, t1, t2, t3, t4⟩ := HBX.out
  have s0 := fresh_cell HB13.out t0
  have s1 := fresh_cell HB13.out t1
  have s2 := fresh_cell HB13.out t2
  have s3 := fresh_cell HB13.out t3
  have s4 := fresh_cell HB13.out t4
  obtain ⟨_, _, _, _, _, _, _, K0⟩ := HKN.out S1 P
  have HMK := hidd (K0.prog HSW3.out.seats h0c.out (fun _ _ => rfl) (own_rda HO3.out))
  have HW2 : Hid (w1.heap.size ≤ w2.heap.size) := HB2.out.size
  have HW3 : Hid (∀ x, (Value.slice u1 n c1).ownBlock = some x → x < w2.heap.size) := fun x hx => (HSW2.out.own.lt x hx).2
  have HW4 : Hid (∀ i, i < n → ∀ x, (Value.slice (S1 i).ho (S1 i).hn (S1 i).hc).ownBlock = some x → x < w2.heap.size) := fun i hi x hx => ((HSW2.out.held i hi).lt x hx).2
  clear t0 t1 t2 t3 t4 HCI ho3 hb3 K0 HSW2 HBX HB2
  unfold mV PlnP at HMK
  simp only at HMK
  go_upto_region 4 with (go_at_call 9; with_reducible refine HMK.out.mono ?_; rintro e w4 ⟨uo, uz, ko, kz, rfl, hb4, _, _⟩)
  replace s0 := fresh_cell hb4 s0
  replace s1 := fresh_cell hb4 s1
  replace s2 := fresh_cell hb4 s2
  replace s3 := fresh_cell hb4 s3
  replace s4 := fresh_cell hb4 s4
  have HB14 := hidd (HB13.out.trans (hb4.mono HB13.out.size))
  have HO4 := hidd (HO3.out.kept hb4)
  have HSW4 := hidd (HSW3.out.chg (Chg.of_below (fun _ => False) hb4) (fun _ t => t.elim))
  clear hb4 HMK HO3 HSW3 HB13
  obtain ⟨hf, HHF⟩ : ∃ k : Nat, Hid (k = m / 2) := ⟨_, rfl⟩
  have eh : (m : Int).tdiv 2 = (hf : Int) := by rw [Int.tdiv_eq_ediv_of_nonneg (by omega), HHF.out]; omega
  have eh2 : (m : Int) / 2 = (hf : Int) := by rw [HHF.out]; omega
  have hhf : hf + hf ≤ m := by have := HHF.out; omega
  have S4 : Hid (w4.cell? ⟨w.heap.size, 0, none⟩ = some (.int .i64 bs) ∧ w4.cell? ⟨w.heap.size, 1, none⟩ = some (.int .i64 bl) ∧ w4.cell? ⟨w.heap.size, 2, none⟩ = some (.int .i64 bu) ∧ w4.cell? ⟨w.heap.size, 3, none⟩ = some (.int .i64 ch) ∧ w4.cell? ⟨w.heap.size, 4, none⟩ = some (.int .i64 tr)) := ⟨s0, s1, s2, s3, s4⟩
  clear s0 s1 s2 s3 s4
  go_wp2
  go_loopw [9] (fun i wr => ∃ k : Nat, k ≤ hf ∧ i = .int .i64 (k : Int) ∧ ∃ f' : Nat → Int, Hid (Own wr w2.heap.size 3 1 (.slice u2 m c2) m (fun i => .int .i64 (f' i))) ∧ Hid (Chg w4 wr (fun b => (Value.slice u2 m c2).ownBlock = some b))) (fun i _ => hf - (intOf i).toNat)
  case atStart => exact ⟨0, by omega, rfl, P, HO4, Chg.refl _ _⟩
  case round =>
    clear HO4
    obtain ⟨k, hk, rfl, f', HO, HC⟩ := hrel
    by_cases hlt : k < hf
    · obtain ⟨g, rfl, _, _⟩ := own_blk HO.out (by omega)
      obtain ⟨b1, o1, e1, h1⟩ := (own_rda HO.out).one (by omega)
      cases e1
      obtain ⟨q, HQ⟩ : ∃ q, Hid (q + k + 1 = m) := ⟨m - 1 - k, by show _ = _; omega⟩
      have e3 : (m : Int) - 1 - (k : Int) = (q : Int) := by have := HQ.out; omega
      have x1 := h1 k (by omega)
      have x2 := h1 q (by have := HQ.out; omega)
      simp only [Nat.zero_add] at x1 x2
      have fz := own_fz HO.out
      have k0 : (0 : Int) ≤ (k : Int) := by omega
      have k1 : (k : Int) < (m : Int) := by omega
      have k2 : (k : Int) < (hf : Int) := by omega
      have q0 : (0 : Int) ≤ (q : Int) := by omega
      have q1 : (q : Int) < (m : Int) := by have := HQ.out; omega
      have p1 := HO.out.put k (.int .i64 (f' q))
      have HP2 := hidd (p1.put q (.int .i64 (f' k)))
      obtain ⟨b2, o2, e2, h2⟩ := (own_rda p1).one (by omega)
      cases e2
      have y2 := h2 q (by have := HQ.out; omega)
      simp only [Nat.zero_add] at y2
      rw [if_neg (by have := HQ.out; omega)] at y2
      have fz2 := own_fz p1
      have HC2 : Hid (Chg w4 ((wr.setCell ⟨g, k, none⟩ (.int .i64 (f' q))).setCell ⟨g, q, none⟩ (.int .i64 (f' k))) (fun b => (Value.slice (some ⟨g, 0, none⟩) m c2).ownBlock = some b)) := (HC.out.trans (Chg.of_set wr g k (.int .i64 (f' q))) (fun b _ e => by rw [e]; rfl)).trans (Chg.of_set _ g q (.int .i64 (f' k))) (fun b _ e => by rw [e]; rfl)
      clear h1 h2 p1
      have HF3 : Hid (Own ((wr.setCell ⟨g, k, none⟩ (.int .i64 (f' q))).setCell ⟨g, q, none⟩ (.int .i64 (f' k))) w2.heap.size 3 1 (.slice (some ⟨g, 0, none⟩) m c2) m (fun i => .int .i64 (if i = q then f' k else if i = k then f' q else f' i))) := HP2.out.congr (fun i _ => by
        by_cases a : i = q
        · rw [if_pos a, if_pos a]
        · rw [if_neg a, if_neg a]
          by_cases b : i = k
          · rw [if_pos b, if_pos b]
          · rw [if_neg b, if_neg b])
      clear HP2 HC HO
      generalize f' q = yq at *
      generalize f' k = yk at *
      go_wp2
      go_roundw
      case rel => exact ⟨k + 1, by omega, by go_num, _, HF3, HC2⟩
      case measure => simp [intOf]; omega
    · obtain rfl : hf = k := by omega
      generalize wr = w5 at *
      have HYB : Hid (∀ x, (Value.slice u2 m c2).ownBlock = some x → w2.heap.size ≤ x) := fun x hx => (HO.out.lt x hx).1
      have HSW5 : Hid (SwI w1 w5 u1 n c1 S1 S1) := ⟨HSW4.out.own.chg HC.out (fun x hx t => by have := HW3.out x hx; have := HYB.out x t; omega), HSW4.out.sm, fun i hi => (HSW4.out.held i hi).chg HC.out (fun x hx t => by have := HW4.out i hi x hx; have := HYB.out x t; omega)⟩
      have HB15 : Hid (Below w1.heap.size w1 w5) := HC.out.below HB14.out HB14.out.size (fun x t => Nat.le_trans HW2.out (HYB.out x t))
      have HGY : Hid (∀ x, x < w2.heap.size → x < w4.heap.size → w5.heap[x]? = w4.heap[x]?) := fun x hx hx4 => HC.out.block x hx4 (fun t => by have := HYB.out x t; omega)
      have HO5 := HO
      have S5 : Hid (w5.cell? ⟨w.heap.size, 0, none⟩ = some (.int .i64 bs) ∧ w5.cell? ⟨w.heap.size, 1, none⟩ = some (.int .i64 bl) ∧ w5.cell? ⟨w.heap.size, 2, none⟩ = some (.int .i64 bu) ∧ w5.cell? ⟨w.heap.size, 3, none⟩ = some (.int .i64 ch) ∧ w5.cell? ⟨w.heap.size, 4, none⟩ = some (.int .i64 tr)) := by
        have hng : ¬ (Value.slice u2 m c2).ownBlock = some w.heap.size := fun t => by have := HYB.out _ t; have := HW2.out; have := HGL.out; omega
        obtain ⟨s0, s1, s2, s3, s4⟩ := S4.out
        exact ⟨HC.out.cell s0 hng, HC.out.cell s1 hng, HC.out.cell s2 hng, HC.out.cell s3 hng, HC.out.cell s4 hng⟩
      clear HO HC HSW4 HB14 HGY S4 HHF
      go_wp2
      clear eh eh2
      go_loopw [11] (fun i wr => ∃ (k : Nat) (S2 : Nat → Se), k ≤ n ∧ i = .int .i64 (k : Int) ∧ Hid (SwI w1 wr u1 n c1 S1 S2) ∧ Hid (Chg w5 wr (fun b => (Value.slice u1 n c1).ownBlock = some b))) (fun i _ => n - (intOf i).toNat)
      case atStart => exact ⟨0, S1, by omega, rfl, HSW5, Chg.refl _ _⟩
      case round =>
        clear HSW5
        obtain ⟨k, S2, hk, rfl, HSW, HC⟩ := hrel
        by_cases hlt : k < n
        · obtain ⟨g, rfl, _, _⟩ := own_blk HSW.out.own (by omega)
          obtain ⟨b1, o1, e1, h1⟩ := (own_rda HSW.out.own).seat (by omega)
          cases e1
          obtain ⟨_, x1, _, x3, _⟩ := h1 k hlt
          simp only [Nat.zero_add] at x1 x3
          have fz := own_fz HSW.out.own
          have fz2 := fun V => own_fz (HSW.out.own.put (k * 5 + 3) (.int .i64 V))
          have x1' : ∀ V : Int, (wr.setCell ⟨g, k * 5 + 3, none⟩ (.int .i64 V)).cell? ⟨g, k * 5 + 1, none⟩ = some (.int .i64 (S2 k).kn) := fun V => by
            obtain ⟨b2, o2, e2, h2⟩ := (own_rda (HSW.out.own.put (k * 5 + 3) (.int .i64 V))).at_ (by omega)
            cases e2
            have := h2 (k * 5 + 1) (by omega)
            simp only [Nat.zero_add] at this
            rw [if_neg (by omega), seF_at _ _ _ (by omega)] at this
            exact this
          have k0 : (0 : Int) ≤ (k : Int) := by omega
          have k1 : (k : Int) < (n : Int) := by omega
          have HP := hidd (fun v1 v2 => HSW.out.put (k := k) v1 v2)
          have HC2 := hidd (fun (v1 v2 : Int) => (HC.out.trans (Chg.of_set wr g (k * 5 + 3) (.int .i64 v1)) (fun b _ e => by rw [e]; rfl)).trans (Chg.of_set _ g (k * 5 + 1) (.int .i64 v2)) (fun b _ e => by rw [e]; rfl))
          clear h1 HSW HC
          generalize (S2 k).kn = y1 at *
          generalize (S2 k).wa = y3 at *
          go_wp2
          go_roundw
          case rel => exact ⟨k + 1, _, by omega, by go_num, hidd (HP.out _ _), hidd (HC2.out _ _)⟩
          case measure => simp [intOf]; omega
        · obtain rfl : k = n := by omega
          generalize wr = w6 at *
          have HXB : Hid (∀ x, (Value.slice u1 k c1).ownBlock = some x → w1.heap.size ≤ x ∧ x < w2.heap.size) := fun x hx => ⟨(HSW.out.own.lt x hx).1, HW3.out x hx⟩
          have HO6 : Hid (Own w6 w2.heap.size 3 1 (.slice u2 m c2) m (fun i => .int .i64 (f' i))) := HO5.out.chg HC.out (fun x hx t => by have := (HO5.out.lt x hx).1; have := HXB.out x t; omega)
          have HB16 : Hid (Below w1.heap.size w1 w6) := HC.out.below HB15.out HB15.out.size (fun x t => (HXB.out x t).1)
          have S6 : Hid (w6.cell? ⟨w.heap.size, 0, none⟩ = some (.int .i64 bs) ∧ w6.cell? ⟨w.heap.size, 1, none⟩ = some (.int .i64 bl) ∧ w6.cell? ⟨w.heap.size, 2, none⟩ = some (.int .i64 bu) ∧ w6.cell? ⟨w.heap.size, 3, none⟩ = some (.int .i64 ch) ∧ w6.cell? ⟨w.heap.size, 4, none⟩ = some (.int .i64 tr)) := by
            have hng : ¬ (Value.slice u1 k c1).ownBlock = some w.heap.size := fun t => by have := HXB.out _ t; have := HGL.out; omega
            obtain ⟨s0, s1, s2, s3, s4⟩ := S5.out
            exact ⟨HC.out.cell s0 hng, HC.out.cell s1 hng, HC.out.cell s2 hng, HC.out.cell s3 hng, HC.out.cell s4 hng⟩
          obtain ⟨no, nz, x, pf, pa, pq, pd, K⟩ := HKN.out S2 f'
          have HMK := hidd (K.prog HSW.out.seats h0c.out (fun _ _ => rfl) (own_rda HO6.out))
          have HKR := hidd (fun (z : World) (x y : Option Addr) (k1 k2 : Nat) (S9 : Nat → Se) (h1 : SeA z x k k1 S9) (h2 : ∀ i, i < k → er (S9 i) = er (S2 i)) (h3 : RdA z y 1 m k2 (fun i => .int .i64 (f' i))) => K.ref h1 h2 h3)
          unfold mV PlnP at HMK HKR
          simp only at HMK HKR
          obtain ⟨s0, s1, s2, s3, s4⟩ := S6.out
          have HHS : Hid (∀ i, i < k → (S2 i).hn ≤ 17592186043904) := fun i hi => by rw [(HSW.out.sm i hi).2.1]; exact HHN.out i hi
          clear HC HO5 HB15 S5 S6 HKN K
          go_upto_region 16 with (go_at_call 9; with_reducible refine HMK.out.mono ?_; rintro e wm ⟨uo, uz, ko, kz, rfl, hb7, o1, o2⟩)
          have HFA := hidd (fresh_alloc wm (.cells #[.slice uo no ko, .slice uz nz kz] 28))
          have HRP := hidd (two_new wm (.slice uo no ko) (.slice uz nz kz) 28)
          have HO1 := hidd (o1.kept HFA.out)
          have HO2 := hidd (o2.kept HFA.out)
          have HB67 := hidd (hb7.trans (HFA.out.mono hb7.size))
          obtain ⟨pb, HPB⟩ : ∃ pb, Hid (pb = wm.heap.size) := ⟨_, rfl⟩
          rw [← HPB.out] at HRP ⊢
          generalize wm.alloc (.cells #[.slice uo no ko, .slice uz nz kz] 28) = w3 at *
          replace s0 := fresh_cell HB67.out s0
          replace s1 := fresh_cell HB67.out s1
          replace s2 := fresh_cell HB67.out s2
          replace s3 := fresh_cell HB67.out s3
          replace s4 := fresh_cell HB67.out s4
          have HB3 := hidd (HB16.out.trans (HB67.out.mono HB16.out.size))
          have HGW : Hid (w.heap.size < w3.heap.size) := Nat.lt_of_lt_of_le HGL.out HB3.out.size
          have HSK : Hid (∀ z, Below w3.heap.size w3 z → (Below w3.heap.size w3 z ∧ z.cell? ⟨w.heap.size, 0, none⟩ = some (.int .i64 bs) ∧ z.cell? ⟨w.heap.size, 1, none⟩ = some (.int .i64 bl) ∧ z.cell? ⟨w.heap.size, 2, none⟩ = some (.int .i64 bu) ∧ z.cell? ⟨w.heap.size, 3, none⟩ = some (.int .i64 ch) ∧ z.cell? ⟨w.heap.size, 4, none⟩ = some (.int .i64 tr))) := fun z hz => ⟨hz, fresh_cell hz s0, fresh_cell hz s1, fresh_cell hz s2, fresh_cell hz s3, fresh_cell hz s4⟩
          have HSX := hidd (HSW.out.seats.fresh HB67.out)
          have HYX := hidd (own_rda (HO6.out.kept HB67.out))
          have sd := HSK.out w3.drew (Below.refl _ _).drew
          have HSP := hidd (HSK.out (w3.alloc (.cells #[.slice none 0 0, .slice none 0 0] 28)).drew (fresh_trans (fresh_alloc _ _) (Below.refl _ _).drew))
          have HCS : Hid (∀ z, Below w3.heap.size w3 z → Calls Try.prog 12 #[.slice u1 k c1] z fun e w' => ∃ u c S', e = .returned (.slice u k c) ∧ SeA w' u k c S' ∧ (u = none → c = 0) ∧ (∀ i, i < k → er (S' i) = er (S2 i)) ∧ Below z.heap.size z w') := fun z hz => copyS_any (HSX.out.fresh hz) hn HHS.out
          have HCI : Hid (∀ z, Below w3.heap.size w3 z → Calls Try.prog 13 #[.slice u2 m c2] z fun e w' => ∃ u c, e = .returned (.slice u m c) ∧ RdA w' u 1 m c (fun i => .int .i64 (f' i)) ∧ Below z.heap.size z w') := fun z hz => (copyI_any (HYX.out.fresh hz) hm).mono (fun e w' q => by
            obtain ⟨u, c, q1, q2, q3⟩ := q
            exact ⟨u, c, q1, own_rda q2, q3⟩)
          clear hb7 o1 o2 s0 s1 s2 s3 s4 HMK HSW HO6 HHS HPB
          go_cut [14, 15, 89, 90, 91, 92, 93, 94, 95, 96, 97] (fun vp ve _ _ _ _ _ _ _ _ _ wx => ∃ qb vo k1 vz k2, vp = .pointer (some ⟨qb, 0, none⟩) ∧ ve = .int .i64 x ∧ FnQ w3 wx qb no nz pf pa pq pd (.slice vo no k1) (.slice vz nz k2) ∧ (Below w3.heap.size w3 wx ∧ wx.cell? ⟨w.heap.size, 0, none⟩ = some (.int .i64 bs) ∧ wx.cell? ⟨w.heap.size, 1, none⟩ = some (.int .i64 bl) ∧ wx.cell? ⟨w.heap.size, 2, none⟩ = some (.int .i64 bu) ∧ wx.cell? ⟨w.heap.size, 3, none⟩ = some (.int .i64 ch) ∧ wx.cell? ⟨w.heap.size, 4, none⟩ = some (.int .i64 tr)))
          case first =>
            refine wp_region_held_drew (S := fun z => (Below w3.heap.size w3 z ∧ z.cell? ⟨w.heap.size, 0, none⟩ = some (.int .i64 bs) ∧ z.cell? ⟨w.heap.size, 1, none⟩ = some (.int .i64 bl) ∧ z.cell? ⟨w.heap.size, 2, none⟩ = some (.int .i64 bu) ∧ z.cell? ⟨w.heap.size, 3, none⟩ = some (.int .i64 ch) ∧ z.cell? ⟨w.heap.size, 4, none⟩ = some (.int .i64 tr))) (by kernel_rfl) sd (fun hHeld => ?_)
            refine wpAnyH_take (i := 0) (v := ?vt1) rfl (by kernel_rfl) (by kernel_rfl) (by kernel_rfl) (fun _ _ _ h => h) (Or.inl ⟨by rfl, ?yt1⟩) sd ?rt1
            case yt1 =>
              intro z hz
              obtain ⟨z0, z1, z2, z3, z4, z5⟩ := hz
              go_simp
              try with_reducible rfl
            refine wpAnyH_take (i := 1) (v := ?vt2) rfl (by kernel_rfl) (by kernel_rfl) (by kernel_rfl) (fun _ _ _ h => h) (Or.inl ⟨by rfl, ?yt2⟩) sd ?rt2
            case yt2 =>
              intro z hz
              obtain ⟨z0, z1, z2, z3, z4, z5⟩ := hz
              go_simp
              try with_reducible rfl
            refine wpAnyH_take (i := 3) (v := ?vt3) rfl (by kernel_rfl) (by kernel_rfl) (by kernel_rfl) (fun _ _ _ h => h) (Or.inl ⟨by rfl, ?yt3⟩) sd ?rt3
            case yt3 =>
              intro z hz
              obtain ⟨z0, z1, z2, z3, z4, z5⟩ := hz
              go_simp
              try with_reducible rfl
            refine wpAnyH_ready (rs := [2, 9]) (by kernel_rfl) (by simp) (AllReadyH.cons rfl (fun K hK => ?bt4) (AllReadyH.cons rfl (fun K hK => ?bt5) AllReadyH.nil))
            case bt4 =>
              go_simp
              refine (HCS.out _ sd.1).mono ?_
              rintro e wA ⟨u1', c1', S9, rfl, hse, hu0, her, hbA⟩
              have sA := sc_next sd hbA
              refine hK.out _ _ sA (fun _ => ?_)
              clear hK K
              refine wpAnyH_ready (rs := [4, 9]) (by kernel_rfl) (by simp) (AllReadyH.cons rfl (fun K hK => ?bt6) (AllReadyH.cons rfl (fun K hK => ?bt7) AllReadyH.nil))
              case bt6 =>
                go_simp
                refine (HCI.out _ sA.1).mono ?_
                rintro e wB ⟨u2', c2', rfl, hri, hbB⟩
                have sB := sc_next sA hbB
                refine hK.out _ _ sB (fun _ => ?_)
                clear hK K
                replace hse := hse.fresh hbB
                refine wpAnyH_ready (rs := [5, 9]) (by kernel_rfl) (by simp) (AllReadyH.cons rfl (fun K hK => ?bt8) (AllReadyH.cons rfl (fun K hK => ?bt9) AllReadyH.nil))
                case bt8 =>
                  go_simp
                  have hmz := sB.1.size
                  refine (HKR.out _ _ _ _ _ _ hse her hri).mono ?_
                  rintro e wM ⟨vo, vz, k1, k2, rfl, hbM, o1, o2⟩
                  have sM := sc_next sB hbM
                  refine hK.out _ _ sM (fun _ => ?_)
                  clear hK K
                  refine wpAnyH_take (i := 6) (v := ?vt10) rfl (by kernel_rfl) (by kernel_rfl) (by kernel_rfl) (fun _ _ _ h => h) (Or.inl ⟨by rfl, ?yt10⟩) sM ?rt10
                  case yt10 =>
                    intro z hz
                    obtain ⟨z0, z1, z2, z3, z4, z5⟩ := hz
                    go_simp
                    try with_reducible rfl
                  refine wpAnyH_take (i := 7) (v := ?vt11) rfl (by kernel_rfl) (by kernel_rfl) (by kernel_rfl) (fun _ _ _ h => h) (Or.inl ⟨by rfl, ?yt11⟩) sM ?rt11
                  case yt11 =>
                    intro z hz
                    obtain ⟨z0, z1, z2, z3, z4, z5⟩ := hz
                    go_simp
                    try with_reducible rfl
                  refine wpAnyH_take (i := 8) (v := ?vt12) rfl (by kernel_rfl) (by kernel_rfl) (by kernel_rfl) (fun _ _ _ h => h) (Or.inl ⟨by rfl, ?yt12⟩) sM ?rt12
                  case yt12 =>
                    intro z hz
                    obtain ⟨z0, z1, z2, z3, z4, z5⟩ := hz
                    go_simp
                    try with_reducible rfl
                  refine wpAnyH_ready (rs := [9]) (by kernel_rfl) (by simp) (AllReadyH.cons rfl (fun K hK => ?_) AllReadyH.nil)
                  go_simp
                  have hfp := fresh_alloc wM (.cells #[.slice none 0 0, .slice none 0 0] 28)
                  have sP := sc_next sM hfp
                  have hpb : ((wM.alloc (.cells #[.slice none 0 0, .slice none 0 0] 28))).rowIs wM.heap.size 28 2 (two (.slice none 0 0) (.slice none 0 0)) := two_new wM _ _ 28
                  refine hK.out _ _ sP (fun _ => ?_)
                  clear hK K
                  obtain ⟨pb, hpe⟩ : ∃ pb, pb = wM.heap.size := ⟨_, rfl⟩
                  rw [← hpe] at hpb
                  have hpw : w3.heap.size ≤ pb := by rw [hpe]; exact sM.1.size
                  replace o1 := o1.kept hfp
                  replace o2 := o2.kept hfp
                  obtain ⟨old, hold, hosz, _⟩ := hpb
                  refine wpAnyH_ready (rs := [10]) (by kernel_rfl) (by simp) (AllReadyH.cons rfl (fun K hK => ?_) AllReadyH.nil)
                  refine step_store_row rfl 28 (.tmp 14) (.tmp 96) rfl wM.heap.size #[.slice vo no k1, .slice vz nz k2] rfl rfl 28 old (by rw [← hpe]; exact hold) size_plan hosz (all2 _ _ rfl rfl) ?_
                  have hfin := fin_again o1 o2 sP hold hosz hpw HGW.out hmz
                  rw [hpe] at hfin
                  refine hK.out _ _ hfin.1 (fun _ => ?_)
                  clear hK K
                  refine wpAnyH_take (i := 11) (v := ?vt13) rfl (by kernel_rfl) (by kernel_rfl) (by kernel_rfl) (fun _ _ _ h => h) (Or.inl ⟨by rfl, ?yt13⟩) hfin.1 ?rt13
                  case yt13 =>
                    intro z hz
                    obtain ⟨z0, z1, z2, z3, z4, z5⟩ := hz
                    go_simp
                    try with_reducible rfl
                  refine wpAnyH_done (by kernel_rfl) ?_ _
                  go_wp2_with fail
                  go_meet
                  case rel =>
                    exact ⟨_, vo, k1, vz, k2, rfl, rfl, hfin.2, hfin.1⟩
                case bt9 =>
                  go_simp
                  have hfp := fresh_alloc wB (.cells #[.slice none 0 0, .slice none 0 0] 28)
                  have sP := sc_next sB hfp
                  have hpb : ((wB.alloc (.cells #[.slice none 0 0, .slice none 0 0] 28))).rowIs wB.heap.size 28 2 (two (.slice none 0 0) (.slice none 0 0)) := two_new wB _ _ 28
                  refine hK.out _ _ sP (fun _ => ?_)
                  clear hK K
                  obtain ⟨pb, hpe⟩ : ∃ pb, pb = wB.heap.size := ⟨_, rfl⟩
                  rw [← hpe] at hpb
                  have hpw : w3.heap.size ≤ pb := by rw [hpe]; exact sB.1.size
                  replace hse := hse.fresh hfp
                  replace hri := hri.fresh hfp
                  refine wpAnyH_ready (rs := [5]) (by kernel_rfl) (by simp) (AllReadyH.cons rfl (fun K hK => ?bt14) AllReadyH.nil)
                  case bt14 =>
                    go_simp
                    have hmz := sP.1.size
                    refine (HKR.out _ _ _ _ _ _ hse her hri).mono ?_
                    rintro e wM ⟨vo, vz, k1, k2, rfl, hbM, o1, o2⟩
                    have sM := sc_next sP hbM
                    refine hK.out _ _ sM (fun _ => ?_)
                    clear hK K
                    replace hpb := hpb.of_block (hbM.block _ hpb.lt)
                    refine wpAnyH_take (i := 6) (v := ?vt15) rfl (by kernel_rfl) (by kernel_rfl) (by kernel_rfl) (fun _ _ _ h => h) (Or.inl ⟨by rfl, ?yt15⟩) sM ?rt15
                    case yt15 =>
                      intro z hz
                      obtain ⟨z0, z1, z2, z3, z4, z5⟩ := hz
                      go_simp
                      try with_reducible rfl
                    refine wpAnyH_take (i := 7) (v := ?vt16) rfl (by kernel_rfl) (by kernel_rfl) (by kernel_rfl) (fun _ _ _ h => h) (Or.inl ⟨by rfl, ?yt16⟩) sM ?rt16
                    case yt16 =>
                      intro z hz
                      obtain ⟨z0, z1, z2, z3, z4, z5⟩ := hz
                      go_simp
                      try with_reducible rfl
                    refine wpAnyH_take (i := 8) (v := ?vt17) rfl (by kernel_rfl) (by kernel_rfl) (by kernel_rfl) (fun _ _ _ h => h) (Or.inl ⟨by rfl, ?yt17⟩) sM ?rt17
                    case yt17 =>
                      intro z hz
                      obtain ⟨z0, z1, z2, z3, z4, z5⟩ := hz
                      go_simp
                      try with_reducible rfl
                    obtain ⟨old, hold, hosz, _⟩ := hpb
                    refine wpAnyH_ready (rs := [10]) (by kernel_rfl) (by simp) (AllReadyH.cons rfl (fun K hK => ?_) AllReadyH.nil)
                    refine step_store_row rfl 28 (.tmp 14) (.tmp 96) rfl wB.heap.size #[.slice vo no k1, .slice vz nz k2] rfl rfl 28 old (by rw [← hpe]; exact hold) size_plan hosz (all2 _ _ rfl rfl) ?_
                    have hfin := fin_again o1 o2 sM hold hosz hpw HGW.out hmz
                    rw [hpe] at hfin
                    refine hK.out _ _ hfin.1 (fun _ => ?_)
                    clear hK K
                    refine wpAnyH_take (i := 11) (v := ?vt18) rfl (by kernel_rfl) (by kernel_rfl) (by kernel_rfl) (fun _ _ _ h => h) (Or.inl ⟨by rfl, ?yt18⟩) hfin.1 ?rt18
                    case yt18 =>
                      intro z hz
                      obtain ⟨z0, z1, z2, z3, z4, z5⟩ := hz
                      go_simp
                      try with_reducible rfl
                    refine wpAnyH_done (by kernel_rfl) ?_ _
                    go_wp2_with fail
                    go_meet
                    case rel =>
                      exact ⟨_, vo, k1, vz, k2, rfl, rfl, hfin.2, hfin.1⟩
              case bt7 =>
                go_simp
                have hfp := fresh_alloc wA (.cells #[.slice none 0 0, .slice none 0 0] 28)
                have sP := sc_next sA hfp
                have hpb : ((wA.alloc (.cells #[.slice none 0 0, .slice none 0 0] 28))).rowIs wA.heap.size 28 2 (two (.slice none 0 0) (.slice none 0 0)) := two_new wA _ _ 28
                refine hK.out _ _ sP (fun _ => ?_)
                clear hK K
                obtain ⟨pb, hpe⟩ : ∃ pb, pb = wA.heap.size := ⟨_, rfl⟩
                rw [← hpe] at hpb
                have hpw : w3.heap.size ≤ pb := by rw [hpe]; exact sA.1.size
                replace hse := hse.fresh hfp
                refine wpAnyH_ready (rs := [4]) (by kernel_rfl) (by simp) (AllReadyH.cons rfl (fun K hK => ?bt19) AllReadyH.nil)
                case bt19 =>
                  go_simp
                  refine (HCI.out _ sP.1).mono ?_
                  rintro e wB ⟨u2', c2', rfl, hri, hbB⟩
                  have sB := sc_next sP hbB
                  refine hK.out _ _ sB (fun _ => ?_)
                  clear hK K
                  replace hse := hse.fresh hbB
                  replace hpb := hpb.of_block (hbB.block _ hpb.lt)
                  refine wpAnyH_ready (rs := [5]) (by kernel_rfl) (by simp) (AllReadyH.cons rfl (fun K hK => ?bt20) AllReadyH.nil)
                  case bt20 =>
                    go_simp
                    have hmz := sB.1.size
                    refine (HKR.out _ _ _ _ _ _ hse her hri).mono ?_
                    rintro e wM ⟨vo, vz, k1, k2, rfl, hbM, o1, o2⟩
                    have sM := sc_next sB hbM
                    refine hK.out _ _ sM (fun _ => ?_)
                    clear hK K
                    replace hpb := hpb.of_block (hbM.block _ hpb.lt)
                    refine wpAnyH_take (i := 6) (v := ?vt21) rfl (by kernel_rfl) (by kernel_rfl) (by kernel_rfl) (fun _ _ _ h => h) (Or.inl ⟨by rfl, ?yt21⟩) sM ?rt21
                    case yt21 =>
                      intro z hz
                      obtain ⟨z0, z1, z2, z3, z4, z5⟩ := hz
                      go_simp
                      try with_reducible rfl
                    refine wpAnyH_take (i := 7) (v := ?vt22) rfl (by kernel_rfl) (by kernel_rfl) (by kernel_rfl) (fun _ _ _ h => h) (Or.inl ⟨by rfl, ?yt22⟩) sM ?rt22
                    case yt22 =>
                      intro z hz
                      obtain ⟨z0, z1, z2, z3, z4, z5⟩ := hz
                      go_simp
                      try with_reducible rfl
                    refine wpAnyH_take (i := 8) (v := ?vt23) rfl (by kernel_rfl) (by kernel_rfl) (by kernel_rfl) (fun _ _ _ h => h) (Or.inl ⟨by rfl, ?yt23⟩) sM ?rt23
                    case yt23 =>
                      intro z hz
                      obtain ⟨z0, z1, z2, z3, z4, z5⟩ := hz
                      go_simp
                      try with_reducible rfl
                    obtain ⟨old, hold, hosz, _⟩ := hpb
                    refine wpAnyH_ready (rs := [10]) (by kernel_rfl) (by simp) (AllReadyH.cons rfl (fun K hK => ?_) AllReadyH.nil)
                    refine step_store_row rfl 28 (.tmp 14) (.tmp 96) rfl wA.heap.size #[.slice vo no k1, .slice vz nz k2] rfl rfl 28 old (by rw [← hpe]; exact hold) size_plan hosz (all2 _ _ rfl rfl) ?_
                    have hfin := fin_again o1 o2 sM hold hosz hpw HGW.out hmz
                    rw [hpe] at hfin
                    refine hK.out _ _ hfin.1 (fun _ => ?_)
                    clear hK K
                    refine wpAnyH_take (i := 11) (v := ?vt24) rfl (by kernel_rfl) (by kernel_rfl) (by kernel_rfl) (fun _ _ _ h => h) (Or.inl ⟨by rfl, ?yt24⟩) hfin.1 ?rt24
                    case yt24 =>
                      intro z hz
                      obtain ⟨z0, z1, z2, z3, z4, z5⟩ := hz
                      go_simp
                      try with_reducible rfl
                    refine wpAnyH_done (by kernel_rfl) ?_ _
                    go_wp2_with fail
                    go_meet
                    case rel =>
                      exact ⟨_, vo, k1, vz, k2, rfl, rfl, hfin.2, hfin.1⟩
            case bt5 =>
              go_simp
              have sP := HSP.out
              have hpb : ((w3.alloc (.cells #[.slice none 0 0, .slice none 0 0] 28)).drew).rowIs w3.heap.size 28 2 (two (.slice none 0 0) (.slice none 0 0)) := two_new w3 _ _ 28
              have hpw : w3.heap.size ≤ w3.heap.size := Nat.le_refl _
              refine hK.out _ _ sP (fun _ => ?_)
              clear hK K
              obtain ⟨pb, hpe⟩ : ∃ pb, pb = w3.heap.size := ⟨_, rfl⟩
              rw [← hpe] at hpb
              have hpw : w3.heap.size ≤ pb := Nat.le_of_eq hpe.symm
              refine wpAnyH_ready (rs := [2]) (by kernel_rfl) (by simp) (AllReadyH.cons rfl (fun K hK => ?bt25) AllReadyH.nil)
              case bt25 =>
                go_simp
                refine (HCS.out _ sP.1).mono ?_
                rintro e wA ⟨u1', c1', S9, rfl, hse, hu0, her, hbA⟩
                have sA := sc_next sP hbA
                refine hK.out _ _ sA (fun _ => ?_)
                clear hK K
                replace hpb := hpb.of_block (hbA.block _ hpb.lt)
                refine wpAnyH_ready (rs := [4]) (by kernel_rfl) (by simp) (AllReadyH.cons rfl (fun K hK => ?bt26) AllReadyH.nil)
                case bt26 =>
                  go_simp
                  refine (HCI.out _ sA.1).mono ?_
                  rintro e wB ⟨u2', c2', rfl, hri, hbB⟩
                  have sB := sc_next sA hbB
                  refine hK.out _ _ sB (fun _ => ?_)
                  clear hK K
                  replace hse := hse.fresh hbB
                  replace hpb := hpb.of_block (hbB.block _ hpb.lt)
                  refine wpAnyH_ready (rs := [5]) (by kernel_rfl) (by simp) (AllReadyH.cons rfl (fun K hK => ?bt27) AllReadyH.nil)
                  case bt27 =>
                    go_simp
                    have hmz := sB.1.size
                    refine (HKR.out _ _ _ _ _ _ hse her hri).mono ?_
                    rintro e wM ⟨vo, vz, k1, k2, rfl, hbM, o1, o2⟩
                    have sM := sc_next sB hbM
                    refine hK.out _ _ sM (fun _ => ?_)
                    clear hK K
                    replace hpb := hpb.of_block (hbM.block _ hpb.lt)
                    refine wpAnyH_take (i := 6) (v := ?vt28) rfl (by kernel_rfl) (by kernel_rfl) (by kernel_rfl) (fun _ _ _ h => h) (Or.inl ⟨by rfl, ?yt28⟩) sM ?rt28
                    case yt28 =>
                      intro z hz
                      obtain ⟨z0, z1, z2, z3, z4, z5⟩ := hz
                      go_simp
                      try with_reducible rfl
                    refine wpAnyH_take (i := 7) (v := ?vt29) rfl (by kernel_rfl) (by kernel_rfl) (by kernel_rfl) (fun _ _ _ h => h) (Or.inl ⟨by rfl, ?yt29⟩) sM ?rt29
                    case yt29 =>
                      intro z hz
                      obtain ⟨z0, z1, z2, z3, z4, z5⟩ := hz
                      go_simp
                      try with_reducible rfl
                    refine wpAnyH_take (i := 8) (v := ?vt30) rfl (by kernel_rfl) (by kernel_rfl) (by kernel_rfl) (fun _ _ _ h => h) (Or.inl ⟨by rfl, ?yt30⟩) sM ?rt30
                    case yt30 =>
                      intro z hz
                      obtain ⟨z0, z1, z2, z3, z4, z5⟩ := hz
                      go_simp
                      try with_reducible rfl
                    obtain ⟨old, hold, hosz, _⟩ := hpb
                    refine wpAnyH_ready (rs := [10]) (by kernel_rfl) (by simp) (AllReadyH.cons rfl (fun K hK => ?_) AllReadyH.nil)
                    refine step_store_row rfl 28 (.tmp 14) (.tmp 96) rfl w3.heap.size #[.slice vo no k1, .slice vz nz k2] rfl rfl 28 old (by rw [← hpe]; exact hold) size_plan hosz (all2 _ _ rfl rfl) ?_
                    have hfin := fin_again o1 o2 sM hold hosz hpw HGW.out hmz
                    rw [hpe] at hfin
                    refine hK.out _ _ hfin.1 (fun _ => ?_)
                    clear hK K
                    refine wpAnyH_take (i := 11) (v := ?vt31) rfl (by kernel_rfl) (by kernel_rfl) (by kernel_rfl) (fun _ _ _ h => h) (Or.inl ⟨by rfl, ?yt31⟩) hfin.1 ?rt31
                    case yt31 =>
                      intro z hz
                      obtain ⟨z0, z1, z2, z3, z4, z5⟩ := hz
                      go_simp
                      try with_reducible rfl
                    refine wpAnyH_done (by kernel_rfl) ?_ _
                    go_wp2_with fail
                    go_meet
                    case rel =>
                      exact ⟨_, vo, k1, vz, k2, rfl, rfl, hfin.2, hfin.1⟩
          case rest =>
            obtain ⟨qb, vo, k1, vz, k2, h1, h2, hfi, hsc⟩ := hcut
            subst h1 h2
            have HB9 := hidd hsc.1
            have HEP := hidd (eqPlan_same (own_rda (HO1.out.kept hsc.1)) (own_rda (HO2.out.kept hsc.1)) (own_rda hfi.o1) (own_rda hfi.o2))
            have p0 := fresh_cell hsc.1 (HRP.out.cell (i := 0) (by decide))
            have p1 := fresh_cell hsc.1 (HRP.out.cell (i := 1) (by decide))
            have q0 := hfi.row.cell (i := 0) (by decide)
            have q1 := hfi.row.cell (i := 1) (by decide)
            replace p0 : wc.cell? ⟨pb, 0, none⟩ = some (.slice uo no ko) := p0
            replace p1 : wc.cell? ⟨pb, 1, none⟩ = some (.slice uz nz kz) := p1
            replace q0 : wc.cell? ⟨qb, 0, none⟩ = some (.slice vo no k1) := q0
            replace q1 : wc.cell? ⟨qb, 1, none⟩ = some (.slice vz nz k2) := q1
            clear hfi hsc sd HSP HCS HCI
            generalize wc = W9 at *
            go_wp2_with (go_at_call 10; with_reducible refine HEP.out.mono ?_; rintro e w9 ⟨rfl, hb9⟩)
            go_ret
            exact ⟨rfl, (HF.out.trans (HB3.out.mono HF.out.size)).trans ((HB9.out.mono (HF.out.trans (HB3.out.mono HF.out.size)).size).trans (hb9.mono ((HF.out.trans (HB3.out.mono HF.out.size)).trans (HB9.out.mono (HF.out.trans (HB3.out.mono HF.out.size)).size)).size))⟩
end Go.Proofs.Ytdceahebkohbjab
