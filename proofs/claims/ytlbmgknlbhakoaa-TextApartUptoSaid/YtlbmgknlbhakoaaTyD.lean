import Derived.Test.YtlbmgknlbhakoaaTyC
namespace Go.Proofs.Ytlbmgknlbhakoaa
open Go.RowKit
/-! The calls of TextApart, over its state. -/
/-- what 'right' gave, behind wr -/
def RtP (wr wx : World) (a : Option Addr) (n c : Nat) (ts : List Nat) : Prop := RdA wx a 1 n c (fun i => .int .i64 ((ts.getD i 0 : Nat) : Int)) ∧ (∀ b off, a = some ⟨b, off, none⟩ → wr.heap.size ≤ b) ∧ Below wr.heap.size wr wx
section
variable {w0 wr wX wY : World} {gb wb : Nat} {S : Nat → Nat} {K : Nat → Nat → Prop} {d : VD} {sts : Nat → List (List Int)} {On : Nat → Bool} {R : Nat → List Nat} {p q : Nat → Nat} {V : Nat → Value} {L : Nat → List Int} {O : Nat → Bool}
/-- behind a Feed: what it gave out is not joined yet -/
def AfP (w0 : World) (gb wb : Nat) (S : Nat → Nat) (K : Nat → Nat → Prop) (d : VD) (sts : Nat → List (List Int)) (On : Nat → Bool) (R : Nat → List Nat) (p q : Nat → Nat) (V : Nat → Value) (j : Nat) (a : Option Addr) (l c : Nat) (wx : World) : Prop :=
  ∃ (V' : Nat → Value) (L' : Nat → List Int) (O' : Nat → Bool) (A : List Int), A.length = l ∧ ApX w0 gb wb S K d sts On R (pt p j (p j + 1)) q V' L' O' wx ∧ (∀ i, 4 ≤ i → V' i = V i) ∧ fdO d (sts j) [] false (apT On R (bj j) (p j + 1)) = fdO d (sts j) [] false (apT On R (bj j) (p j)) ++ A ∧ OwnB wx 0 (.slice a l c) A ∧ (∀ i, i < 8 → ∀ b, (V' i).ownBlock = some b → (Value.slice a l c).ownBlock ≠ some b)
theorem AfP.cells {j : Nat} {a : Option Addr} {l c : Nat} {wx : World} (h : AfP w0 gb wb S K d sts On R p q V j a l c wx) : wx.cell? ⟨gb, 0, none⟩ = some (V 4) ∧ wx.cell? ⟨gb, 1, none⟩ = some (V 5) ∧ wx.cell? ⟨wb, 0, none⟩ = some (V 6) ∧ wx.cell? ⟨wb, 1, none⟩ = some (V 7) := by
  obtain ⟨V', L', O', A, _, hI, hV, _⟩ := h
  obtain ⟨g0, g1⟩ := row2 hI.i.got
  obtain ⟨h0, h1⟩ := row2 hI.i.want
  rw [hV 4 (by omega)] at g0
  rw [hV 5 (by omega)] at g1
  rw [hV 6 (by omega)] at h0
  rw [hV 7 (by omega)] at h1
  exact ⟨g0, g1, h0, h1⟩
theorem feed_ap (h : ApX w0 gb wb S K d sts On R p q V L O wr) {j n : Nat} (hj : j < 4) (hC : Cst d (sts j)) (hon : On (p j) = bj j) (hl : (R (p j)).length = n) (hg : ∀ k, k < n → (R (p j)).getD k 0 < d.nb + 1 + d.np) (hn : n ≤ 1048576) {wx : World} {a : Option Addr} {c : Nat} (ht : RtP wr wx a n c (R (p j))) :
    Calls Try.prog 12 #[.pointer (some ⟨S j, 0, none⟩), .slice a n c] wx fun e w' => ∃ a' l' c', e = .returned (.tuple #[.slice a' l' c', .int .i64 0]) ∧ AfP w0 gb wb S K d sts On R p q V j a' l' c' w' := by
  obtain ⟨hr, hlo, hf⟩ := ht
  have hx := h.fresh hf
  have hsz := h.i.fam.size
  refine (feed_any2 hC (hx.i.fam.sta hj) (hx.stl hC.byt hj) hl hr (fun b off e => ?_) hg (by omega)).mono ?_
  · have h1 := hlo b off e
    have h2 := h.i.fam.sl j hj
    refine ⟨fun e2 => ?_, by omega⟩
    have := h.i.fam.lt (i := j) (by omega) e2
    omega
  · rintro e w' ⟨v, rfl, hfd, hov⟩
    obtain ⟨V', L', O', A, h1, h2, h3, h4, h5⟩ := hx.feed hC.byt hj hon hfd hov
    obtain ⟨a', c', rfl, _⟩ := OwnB.rda h4
    exact ⟨a', A.length, c', rfl, V', L', O', A, rfl, h1, h2, h3, h4, h5⟩
/-- behind a join, ahead of the store -/
def JoP (w0 : World) (gb wb : Nat) (S : Nat → Nat) (K : Nat → Nat → Prop) (d : VD) (sts : Nat → List (List Int)) (On : Nat → Bool) (R : Nat → List Nat) (p q : Nat → Nat) (j : Nat) (wx : World) (wz : World) : Prop :=
  (∃ V' L' O', ApX w0 gb wb S K d sts On R (pt p j (p j + 1)) (pt q j (p j + 1)) V' L' O' wz) ∧ ∃ x y z t, wx.rowIs gb 43 2 (two x y) ∧ wx.rowIs wb 43 2 (two z t)
theorem join_ap {j : Nat} (hj : j < 4) {a : Option Addr} {l c : Nat} {wx : World} (h : AfP w0 gb wb S K d sts On R p q V j a l c wx) (hq : q j = p j) {tn : Nat → Nat} {n : Nat} (hl : ∀ i, (R i).length = tn i) (hm : ∀ i t, t ∈ R i → (d.pc t).length ≤ 16) (hpn : p j < n) (hs : sumN tn n ≤ 1048576) :
    Calls Try.prog 17 #[V (4 + j), .slice a l c] wx fun e w' => ∃ a' l' c', e = .returned (.slice a' l' c') ∧ (j < 2 → JoP w0 gb wb S K d sts On R p q j w' (w'.setCell ⟨gb, j, none⟩ (.slice a' l' c'))) ∧ (2 ≤ j → JoP w0 gb wb S K d sts On R p q j w' (w'.setCell ⟨wb, j - 2, none⟩ (.slice a' l' c'))) := by
  obtain ⟨V', L', O', A, rfl, hI, hV, hA, hO, hoff⟩ := h
  obtain ⟨a2, c2, e2, r⟩ := OwnB.rda hO
  injection e2 with e3 _ e4
  subst e3 e4
  have hLj : L' (4 + j) = fdO d (sts j) [] false (apT On R (bj j) (p j)) := by rw [hI.o j hj, hq]
  have hlen : (L' (4 + j)).length + A.length ≤ 1099511627776 := by
    rw [hLj, ← List.length_append, ← hA]
    have h1 := fdO_len (d := d) (st := sts j) (ts := apT On R (bj j) (p j + 1)) (apT_mem hm _)
    have h2 := apT_len (On := On) (b := bj j) tn hl (p j + 1)
    have h3 := sumN_mono tn (show p j + 1 ≤ n from hpn)
    omega
  rw [← hV (4 + j) (by omega)]
  refine (ljoin_any (hI.i.fam.own (4 + j) (by omega)) r (fun b off e e2 => hoff (4 + j) (by omega) b e2 (by rw [e]; rfl)) hlen).mono ?_
  rintro e w' ⟨v, rfl, hjn⟩
  rw [hLj, ← hA] at hjn
  obtain ⟨a', c', ev, _⟩ := OwnB.rda hjn.own
  subst ev
  have hg : w'.rowIs gb 43 2 (two (V' 4) (V' 5)) := hjn.chg.row hI.i.got (hI.i.nog (by omega))
  have hw : w'.rowIs wb 43 2 (two (V' 6) (V' 7)) := hjn.chg.row hI.i.want (hI.i.now (by omega))
  refine ⟨a', _, c', rfl, fun h2 => ⟨?_, _, _, _, _, hg, hw⟩, fun h2 => ⟨?_, _, _, _, _, hg, hw⟩⟩
  · obtain ⟨V9, L9, h9⟩ := hI.joinG (j := j) (r := p j + 1) (by omega) hjn
    exact ⟨V9, L9, O', h9⟩
  · obtain ⟨V9, L9, h9⟩ := hI.joinW (j := j) (r := p j + 1) (by omega) hjn
    exact ⟨V9, L9, O', h9⟩
end
/-- how far, in the first loop -/
def pA (k : Nat) (j : Nat) : Nat := if j < 2 then k else 0
/-- and in the second: all up to J, then k -/
def pB (n J k : Nat) (j : Nat) : Nat := if j < J then n else if j = J then k else 0
theorem four {i : Nat} (h : i < 4) : i = 0 ∨ i = 1 ∨ i = 2 ∨ i = 3 := by omega
section
variable {w0 wX : World} {gb wb : Nat} {S : Nat → Nat} {K : Nat → Nat → Prop} {d : VD} {sts : Nat → List (List Int)} {On : Nat → Bool} {R : Nat → List Nat} {V : Nat → Value} {L : Nat → List Int} {O : Nat → Bool}
theorem ApX.stepA0 {k : Nat} (h : ApX w0 gb wb S K d sts On R (pt (pA k) 0 (k + 1)) (pt (pA k) 0 (k + 1)) V L O wX) (ho : On k = false) : ApX w0 gb wb S K d sts On R (pA (k + 1)) (pA (k + 1)) V L O wX := by
  have h1 := h.skip (j := 1) (by show ¬ On k = true; rw [ho]; simp) rfl
  refine h1.congr (fun i hi => ?_) (fun i hi => ?_) <;> (rcases four hi with rfl | rfl | rfl | rfl <;> rfl)
theorem ApX.stepA1 {k : Nat} (h : ApX w0 gb wb S K d sts On R (pt (pA k) 1 (k + 1)) (pt (pA k) 1 (k + 1)) V L O wX) (ho : On k = true) : ApX w0 gb wb S K d sts On R (pA (k + 1)) (pA (k + 1)) V L O wX := by
  have h1 := h.skip (j := 0) (by show ¬ On k = false; rw [ho]; simp) rfl
  refine h1.congr (fun i hi => ?_) (fun i hi => ?_) <;> (rcases four hi with rfl | rfl | rfl | rfl <;> rfl)
theorem pB_at (n J k : Nat) : pB n J k J = k := by unfold pB; rw [if_neg (by omega), if_pos rfl]
theorem ApX.stepB {n J k : Nat} (h : ApX w0 gb wb S K d sts On R (pt (pB n J k) J (pB n J k J + 1)) (pt (pB n J k) J (pB n J k J + 1)) V L O wX) : ApX w0 gb wb S K d sts On R (pB n J (k + 1)) (pB n J (k + 1)) V L O wX := by
  have e : ∀ j, pt (pB n J k) J (pB n J k J + 1) j = pB n J (k + 1) j := fun j => by
    rw [pB_at]
    by_cases e : j = J
    · subst e; rw [pt_at, pB_at]
    · rw [pt_ne _ _ e]
      unfold pB
      by_cases e2 : j < J
      · rw [if_pos e2, if_pos e2]
      · rw [if_neg e2, if_neg e2, if_neg e, if_neg e]
  exact h.congr (fun j _ => e j) (fun j _ => e j)
theorem ApX.skipB {n J k : Nat} (h : ApX w0 gb wb S K d sts On R (pB n J k) (pB n J k) V L O wX) (ho : ¬ On k = bj J) : ApX w0 gb wb S K d sts On R (pB n J (k + 1)) (pB n J (k + 1)) V L O wX :=
  (h.skip (j := J) (by rw [pB_at]; exact ho) rfl).stepB
theorem ApX.nextB {n J : Nat} (h : ApX w0 gb wb S K d sts On R (pB n J n) (pB n J n) V L O wX) : ApX w0 gb wb S K d sts On R (pB n (J + 1) 0) (pB n (J + 1) 0) V L O wX := by
  have e : ∀ j, pB n J n j = pB n (J + 1) 0 j := fun j => by
    unfold pB
    by_cases h1 : j < J
    · rw [if_pos h1, if_pos (by omega)]
    · rw [if_neg h1]
      by_cases h2 : j = J
      · rw [if_pos h2, if_pos (by omega)]
      · rw [if_neg h2, if_neg (by omega)]
        split <;> rfl
  exact h.congr (fun j _ => e j) (fun j _ => e j)
theorem ApX.aB {n : Nat} (h : ApX w0 gb wb S K d sts On R (pA n) (pA n) V L O wX) : ApX w0 gb wb S K d sts On R (pB n 2 0) (pB n 2 0) V L O wX := by
  refine h.congr (fun i hi => ?_) (fun i hi => ?_) <;> (rcases four hi with rfl | rfl | rfl | rfl <;> rfl)
end
section
variable {w0 wX wY : World} {gb wb : Nat} {S : Nat → Nat} {K : Nat → Nat → Prop} {d : VD} {sts : Nat → List (List Int)} {g0 g1 h0 h1 : Value} {V : Nat → Value} {L : Nat → List Int} {O : Nat → Bool}
/-- a stream was closed, and what was left is joined behind its list -/
def EnP (w0 : World) (gb wb : Nat) (S : Nat → Nat) (K : Nat → Nat → Prop) (d : VD) (sts : Nat → List (List Int)) (g0 g1 h0 h1 : Value) (V : Nat → Value) (L : Nat → List Int) (O : Nat → Bool) (j : Nat) (v : Value) (wx : World) : Prop :=
  ∃ V' L' O', ApF w0 gb wb S K d sts g0 g1 h0 h1 V' L' O' wx ∧ V' (4 + j) = v ∧ L' (4 + j) = L (4 + j) ++ L j ∧ O' j = true ∧ (∀ i, i ≠ j → i ≠ 4 + j → V' i = V i ∧ L' i = L i) ∧ ∀ i, i ≠ j → O' i = O i
theorem ApF.cells (h : ApF w0 gb wb S K d sts g0 g1 h0 h1 V L O wX) : wX.cell? ⟨gb, 0, none⟩ = some g0 ∧ wX.cell? ⟨gb, 1, none⟩ = some g1 ∧ wX.cell? ⟨wb, 0, none⟩ = some h0 ∧ wX.cell? ⟨wb, 1, none⟩ = some h1 := by
  obtain ⟨a, b⟩ := row2 h.got
  obtain ⟨c, e⟩ := row2 h.want
  exact ⟨a, b, c, e⟩
theorem close_ap (h : ApF w0 gb wb S K d sts g0 g1 h0 h1 V L O wX) {j : Nat} (hj : j < 4) (hlen : (L (4 + j)).length + (L j).length ≤ 1099511627776) :
    Calls Try.prog 14 #[.pointer (some ⟨S j, 0, none⟩)] wX fun e w1 => ∃ a l c, e = .returned (.slice a l c) ∧ (w1.cell? ⟨gb, 0, none⟩ = some g0 ∧ w1.cell? ⟨gb, 1, none⟩ = some g1 ∧ w1.cell? ⟨wb, 0, none⟩ = some h0 ∧ w1.cell? ⟨wb, 1, none⟩ = some h1) ∧ Hid (Calls Try.prog 17 #[V (4 + j), .slice a l c] w1 fun e2 w2 => ∃ a2 l2 c2, e2 = .returned (.slice a2 l2 c2) ∧ EnP w0 gb wb S K d sts g0 g1 h0 h1 V L O j (.slice a2 l2 c2) w2) := by
  refine (close_any (h.fam.sta hj)).mono ?_
  rintro e w1 ⟨rfl, hS, hO, hc⟩
  have h1' := h.close hj hS hc
  obtain ⟨a, c, ev, r⟩ := OwnB.rda hO
  have hne : (4 + j) ≠ j := by omega
  refine ⟨a, _, c, by rw [ev], h1'.cells, ?_⟩
  have hown := h1'.fam.own (4 + j) (by omega)
  rw [pt_ne _ _ hne, pt_ne _ _ hne] at hown
  refine (ljoin_any hown r (fun b off e e2 => h.fam.off (4 + j) j (by omega) (by omega) hne b e2 (by rw [ev, e]; rfl)) hlen).mono ?_
  rintro e2 w2 ⟨v, rfl, hjn⟩
  have h2 := h1'.join (i := 4 + j) (by omega) (by omega) (by rw [pt_ne _ _ hne]; exact hjn)
  obtain ⟨a2, c2, rfl, _⟩ := OwnB.rda hjn.own
  refine ⟨a2, _, c2, rfl, _, _, _, h2, pt_at _ _ _, pt_at _ _ _, pt_at _ _ _, fun i h3 h4 => ?_, fun i h3 => pt_ne _ _ h3⟩
  rw [pt_ne _ _ h4, pt_ne _ _ h3, pt_ne _ _ h4, pt_ne _ _ h3]
  exact ⟨rfl, rfl⟩
theorem eqB_ap (h : ApF w0 gb wb S K d sts g0 g1 h0 h1 V L O wX) {i j : Nat} (hi : i < 8) (hj : j < 8) (e : L i = L j) {a a' : Option Addr} {l l' c c' : Nat} (ei : V i = .slice a l c) (ej : V j = .slice a' l' c') :
    Calls Try.prog 18 #[.slice a l c, .slice a' l' c'] wX fun e w' => e = .returned (.bool true) ∧ Below wX.heap.size wX w' := by
  obtain ⟨x1, y1, e1, r1⟩ := OwnB.rda (h.fam.own i hi)
  obtain ⟨x2, y2, e2, r2⟩ := OwnB.rda (h.fam.own j hj)
  rw [ei] at e1
  rw [ej] at e2
  injection e1 with e3 e4 e5
  injection e2 with e6 e7 e8
  subst e3 e4 e5 e6 e7 e8
  rw [e] at r1 ⊢
  exact eqBytes_same r1 r2 (fun _ _ => rfl)
end
end Go.Proofs.Ytlbmgknlbhakoaa
