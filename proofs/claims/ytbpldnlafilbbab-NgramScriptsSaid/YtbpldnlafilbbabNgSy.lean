import Derived.Test.YtbpldnlafilbbabNgSx
namespace Go.Proofs.Ytbpldnlafilbbab
open Go.RowKit
/-! Two indexes on either side: lab names each block (1, 2 the program's, 3, 4 the reference's, 0 the others). -/
structure Sr (w wr : World) (lab : Nat → Nat) (ba bb : Nat) (px py : Nat → Option Addr) (zx zy : Nat → Option Tz) : Prop where
  sx : ∀ k, k < 2 → ∃ S, Xs wr (px k) S (zx k) ∧ ∀ b, S b → lab b = k + 1
  sy : ∀ k, k < 2 → ∃ S, Ys wr (py k) S (zy k) ∧ ∀ b, S b → lab b = k + 3
  old : ∀ b, b < w.heap.size → lab b = 0
  new : ∀ b, wr.heap.size ≤ b → lab b = 0
  la : lab ba = 0
  lb : lab bb = 0
  ra : wr.rowIs ba 44 2 (fun j => .pointer (px j))
  rb : wr.rowIs bb 45 2 (fun j => .pointer (py j))
  hab : ba ≠ bb
  ga : w.heap.size ≤ ba
  gb : w.heap.size ≤ bb
  low : Below w.heap.size w wr
theorem Sr.fresh {w wr w' : World} {lab : Nat → Nat} {ba bb : Nat} {px py : Nat → Option Addr} {zx zy : Nat → Option Tz} (h : Sr w wr lab ba bb px py zx zy) (f : Below wr.heap.size wr w') : Sr w w' lab ba bb px py zx zy := by
  have c := Chg.of_below (fun _ => False) f
  refine ⟨fun k hk => ?_, fun k hk => ?_, h.old, fun b hb => h.new b (Nat.le_trans f.size hb), h.la, h.lb, c.row h.ra (fun t => t), c.row h.rb (fun t => t), h.hab, h.ga, h.gb, h.low.trans (f.mono h.low.size)⟩
  · obtain ⟨S, h1, h2⟩ := h.sx k hk
    exact ⟨S, h1.fresh f, h2⟩
  · obtain ⟨S, h1, h2⟩ := h.sy k hk
    exact ⟨S, h1.fresh f, h2⟩
def upd {α : Type} (f : Nat → α) (k : Nat) (x : α) : Nat → α := fun j => if j = k then x else f j
theorem upd_self {α : Type} (f : Nat → α) (k : Nat) (x : α) : upd f k x k = x := if_pos rfl
theorem upd_ne {α : Type} (f : Nat → α) {k j : Nat} (x : α) (h : j ≠ k) : upd f k x j = f j := if_neg h
/-- labels with the new blocks named l -/
def lbl (lab : Nat → Nat) (a b l : Nat) : Nat → Nat := fun x => if a ≤ x ∧ x < b then l else lab x
/-- a call at the program's index k -/
theorem Sr.callX {w wr w' : World} {lab : Nat → Nat} {ba bb : Nat} {px py : Nat → Option Addr} {zx zy : Nat → Option Tz} (h : Sr w wr lab ba bb px py zx zy) {k : Nat} (hk : k < 2) {z : Option Tz}
    (c : Chg wr w' (fun b => lab b = k + 1)) {S' : Nat → Prop} (hx : Xs w' (px k) S' z) (hS : ∀ b, S' b → lab b = k + 1 ∨ wr.heap.size ≤ b) :
    Sr w w' (lbl lab wr.heap.size w'.heap.size (k + 1)) ba bb px py (upd zx k z) zy := by
  have hlt : ∀ b, b < wr.heap.size → lbl lab wr.heap.size w'.heap.size (k + 1) b = lab b := fun b hb => if_neg (by omega)
  have hln : ∀ b, wr.heap.size ≤ b → b < w'.heap.size → lbl lab wr.heap.size w'.heap.size (k + 1) b = k + 1 := fun b h1 h2 => if_pos ⟨h1, h2⟩
  have hcs := c.size
  refine ⟨fun j hj => ?_, fun j hj => ?_, fun b hb => ?_, fun b hb => ?_, ?_, ?_, c.row h.ra (fun t => by have := h.la; omega), c.row h.rb (fun t => by have := h.lb; omega), h.hab, h.ga, h.gb, c.below h.low h.low.size (fun b hb => ?_)⟩
  · by_cases e : j = k
    · subst e
      refine ⟨S', by rw [upd_self]; exact hx, fun b hb => ?_⟩
      by_cases hbl : b < wr.heap.size
      · rw [hlt b hbl]
        rcases hS b hb with h | h
        · exact h
        · omega
      · exact hln b (by omega) (hx.low b hb)
    · obtain ⟨S, h1, h2⟩ := h.sx j hj
      refine ⟨S, by rw [upd_ne _ _ e]; exact h1.chg c (fun b hb t => by have := h2 b hb; omega), fun b hb => ?_⟩
      rw [hlt b (h1.low b hb)]
      exact h2 b hb
  · obtain ⟨S, h1, h2⟩ := h.sy j hj
    refine ⟨S, h1.chg c (fun b hb t => by have := h2 b hb; omega), fun b hb => ?_⟩
    rw [hlt b (h1.low b hb)]
    exact h2 b hb
  · rw [hlt b (Nat.lt_of_lt_of_le hb h.low.size)]
    exact h.old b hb
  · unfold lbl
    rw [if_neg (by omega)]
    exact h.new b (by omega)
  · rw [hlt _ h.ra.lt]; exact h.la
  · rw [hlt _ h.rb.lt]; exact h.lb
  · by_cases hl : b < w.heap.size
    · have := h.old b hl
      omega
    · omega
theorem Sr.callY {w wr w' : World} {lab : Nat → Nat} {ba bb : Nat} {px py : Nat → Option Addr} {zx zy : Nat → Option Tz} (h : Sr w wr lab ba bb px py zx zy) {k : Nat} (hk : k < 2) {z : Option Tz}
    (c : Chg wr w' (fun b => lab b = k + 3)) {S' : Nat → Prop} (hx : Ys w' (py k) S' z) (hS : ∀ b, S' b → lab b = k + 3 ∨ wr.heap.size ≤ b) :
    Sr w w' (lbl lab wr.heap.size w'.heap.size (k + 3)) ba bb px py zx (upd zy k z) := by
  have hlt : ∀ b, b < wr.heap.size → lbl lab wr.heap.size w'.heap.size (k + 3) b = lab b := fun b hb => if_neg (by omega)
  have hln : ∀ b, wr.heap.size ≤ b → b < w'.heap.size → lbl lab wr.heap.size w'.heap.size (k + 3) b = k + 3 := fun b h1 h2 => if_pos ⟨h1, h2⟩
  have hcs := c.size
  refine ⟨fun j hj => ?_, fun j hj => ?_, fun b hb => ?_, fun b hb => ?_, ?_, ?_, c.row h.ra (fun t => by have := h.la; omega), c.row h.rb (fun t => by have := h.lb; omega), h.hab, h.ga, h.gb, c.below h.low h.low.size (fun b hb => ?_)⟩
  · obtain ⟨S, h1, h2⟩ := h.sx j hj
    refine ⟨S, h1.chg c (fun b hb t => by have := h2 b hb; omega), fun b hb => ?_⟩
    rw [hlt b (h1.low b hb)]
    exact h2 b hb
  · by_cases e : j = k
    · subst e
      refine ⟨S', by rw [upd_self]; exact hx, fun b hb => ?_⟩
      by_cases hbl : b < wr.heap.size
      · rw [hlt b hbl]
        rcases hS b hb with h | h
        · exact h
        · omega
      · exact hln b (by omega) (hx.low b hb)
    · obtain ⟨S, h1, h2⟩ := h.sy j hj
      refine ⟨S, by rw [upd_ne _ _ e]; exact h1.chg c (fun b hb t => by have := h2 b hb; omega), fun b hb => ?_⟩
      rw [hlt b (h1.low b hb)]
      exact h2 b hb
  · rw [hlt b (Nat.lt_of_lt_of_le hb h.low.size)]
    exact h.old b hb
  · unfold lbl
    rw [if_neg (by omega)]
    exact h.new b (by omega)
  · rw [hlt _ h.ra.lt]; exact h.la
  · rw [hlt _ h.rb.lt]; exact h.lb
  · by_cases hl : b < w.heap.size
    · have := h.old b hl
      omega
    · omega
/-- Append at the program's index k: what is not its own stays -/
theorem sr_appendX {w wr : World} {lab : Nat → Nat} {ba bb : Nat} {px py : Nat → Option Addr} {zx zy : Nat → Option Tz} (h : Sr w wr lab ba bb px py zx zy) {k : Nat} (hk : k < 2) {ao : Option Addr} {m c : Nat} {t : Nat → Int} (ht : RdA wr ao 1 m c (fun i => .int .i64 (t i))) (hS : ∀ b o, ao = some ⟨b, o, none⟩ → 0 < m → lab b = 0) (hf : ∀ i, i < m → fits (t i)) (hn : (lenZ (zx k) + m) * 8 ≤ 140737488351232) :
    Calls Try.prog 8 #[.pointer (px k), .slice ao m c] wr fun e w' => e = .returned (.tuple #[]) ∧ Chg wr w' (fun b => lab b = k + 1) ∧ Sr w w' (lbl lab wr.heap.size w'.heap.size (k + 1)) ba bb px py (upd zx k (apZ m t (zx k))) zy := by
  obtain ⟨S, h1, h2⟩ := h.sx k hk
  refine (x_append h1 ht (fun b o e h0 hs => by have := hS b o e h0; have := h2 b hs; omega) hf hn).mono ?_
  rintro e w' ⟨rfl, hc, S', hx, hs⟩
  have hc' := hc.imp (T := fun b => lab b = k + 1) (fun b _ hb => h2 b hb)
  exact ⟨rfl, hc', h.callX hk hc' hx (fun b hb => (hs b hb).imp (h2 b) id)⟩
theorem sr_appendY {w wr : World} {lab : Nat → Nat} {ba bb : Nat} {px py : Nat → Option Addr} {zx zy : Nat → Option Tz} (h : Sr w wr lab ba bb px py zx zy) {k : Nat} (hk : k < 2) {ao : Option Addr} {m c : Nat} {t : Nat → Int} (ht : RdA wr ao 1 m c (fun i => .int .i64 (t i))) (hS : ∀ b o, ao = some ⟨b, o, none⟩ → 0 < m → lab b = 0) (hn : (lenZ (zy k) + m) * 8 ≤ 140737488351232) :
    Calls Try.prog 9 #[.pointer (py k), .slice ao m c] wr fun e w' => e = .returned (.tuple #[]) ∧ Chg wr w' (fun b => lab b = k + 3) ∧ Sr w w' (lbl lab wr.heap.size w'.heap.size (k + 3)) ba bb px py zx (upd zy k (apZ m t (zy k))) := by
  obtain ⟨S, h1, h2⟩ := h.sy k hk
  refine (y_append h1 ht (fun b o e h0 hs => by have := hS b o e h0; have := h2 b hs; omega) hn).mono ?_
  rintro e w' ⟨rfl, hc, S', hx, hs⟩
  have hc' := hc.imp (T := fun b => lab b = k + 3) (fun b _ hb => h2 b hb)
  exact ⟨rfl, hc', h.callY hk hc' hx (fun b hb => (hs b hb).imp (h2 b) id)⟩
theorem sr_cutX {w wr : World} {lab : Nat → Nat} {ba bb : Nat} {px py : Nat → Option Addr} {zx zy : Nat → Option Tz} (h : Sr w wr lab ba bb px py zx zy) {k : Nat} (hk : k < 2) (n : Int) :
    Calls Try.prog 18 #[.pointer (px k), .int .i64 n] wr fun e w' => e = .returned (.tuple #[]) ∧ Chg wr w' (fun b => lab b = k + 1) ∧ Sr w w' (lbl lab wr.heap.size w'.heap.size (k + 1)) ba bb px py (upd zx k (cutZ n (zx k))) zy := by
  obtain ⟨S, h1, h2⟩ := h.sx k hk
  refine (x_cut h1 n).mono ?_
  rintro e w' ⟨rfl, hc, S', hx, hs⟩
  have hc' := hc.imp (T := fun b => lab b = k + 1) (fun b _ hb => h2 b hb)
  exact ⟨rfl, hc', h.callX hk hc' hx (fun b hb => (hs b hb).imp (h2 b) id)⟩
theorem sr_cutY {w wr : World} {lab : Nat → Nat} {ba bb : Nat} {px py : Nat → Option Addr} {zx zy : Nat → Option Tz} (h : Sr w wr lab ba bb px py zx zy) {k : Nat} (hk : k < 2) (n : Int) (hn : lenZ (zy k) * 8 ≤ 140737488351232) :
    Calls Try.prog 12 #[.pointer (py k), .int .i64 n] wr fun e w' => e = .returned (.tuple #[]) ∧ Chg wr w' (fun b => lab b = k + 3) ∧ Sr w w' (lbl lab wr.heap.size w'.heap.size (k + 3)) ba bb px py zx (upd zy k (cutZ n (zy k))) := by
  obtain ⟨S, h1, h2⟩ := h.sy k hk
  refine (y_cut h1 n hn).mono ?_
  rintro e w' ⟨rfl, hc, S', hx, hs⟩
  have hc' := hc.imp (T := fun b => lab b = k + 3) (fun b _ hb => h2 b hb)
  exact ⟨rfl, hc', h.callY hk hc' hx (fun b hb => (hs b hb).imp (h2 b) id)⟩
/-- a new index put in the place of the k-th -/
theorem Sr.setA {w wr : World} {lab : Nat → Nat} {ba bb : Nat} {px py : Nat → Option Addr} {zx zy : Nat → Option Tz} (h : Sr w wr lab ba bb px py zx zy) {k : Nat} (hk : k < 2) {p : Option Addr} {S : Nat → Prop} {z : Option Tz} (hx : Xs wr p S z) (hS : ∀ b, S b → lab b = 0 ∧ w.heap.size ≤ b ∧ b ≠ ba ∧ b ≠ bb) :
    ∃ lab', Sr w (wr.setCell ⟨ba, k, none⟩ (.pointer p)) lab' ba bb (upd px k p) py (upd zx k z) zy ∧ ∀ b, ¬ S b → lab' b = lab b := by
  classical
  have c := Chg.of_set wr ba k (.pointer p)
  have hsz : (wr.setCell ⟨ba, k, none⟩ (.pointer p)).heap.size = wr.heap.size := by simp
  have hno : ∀ b, ¬ S b → (fun b => if S b then k + 1 else lab b) b = lab b := fun b hb => if_neg hb
  refine ⟨fun b => if S b then k + 1 else lab b, ⟨fun j hj => ?_, fun j hj => ?_, fun b hb => ?_, fun b hb => ?_, ?_, ?_, ?_, c.row h.rb (fun t => h.hab t.symm), h.hab, h.ga, h.gb, h.low.setCell h.ga _⟩, hno⟩
  · by_cases e : j = k
    · subst e
      refine ⟨S, by rw [upd_self, upd_self]; exact hx.chg c (fun b hb t => (hS b hb).2.2.1 t), fun b hb => if_pos hb⟩
    · obtain ⟨T, h1, h2⟩ := h.sx j hj
      refine ⟨T, by rw [upd_ne _ _ e, upd_ne _ _ e]; exact h1.chg c (fun b hb t => by have := h2 b hb; rw [t, h.la] at this; omega), fun b hb => ?_⟩
      refine (hno b (fun hs => ?_)).trans (h2 b hb)
      have := (hS b hs).1
      have := h2 b hb
      omega
  · obtain ⟨T, h1, h2⟩ := h.sy j hj
    refine ⟨T, h1.chg c (fun b hb t => by have := h2 b hb; rw [t, h.la] at this; omega), fun b hb => ?_⟩
    refine (hno b (fun hs => ?_)).trans (h2 b hb)
    have := (hS b hs).1
    have := h2 b hb
    omega
  · exact (hno b (fun hs => by have := (hS b hs).2.1; omega)).trans (h.old b hb)
  · exact (hno b (fun hs => by have := hx.low b hs; omega)).trans (h.new b (by omega))
  · exact (hno ba (fun hs => (hS ba hs).2.2.1 rfl)).trans h.la
  · exact (hno bb (fun hs => (hS bb hs).2.2.2 rfl)).trans h.lb
  · refine (h.ra.set k (.pointer p)).congr (fun j hj => ?_)
    by_cases e : j = k
    · rw [if_pos e, e, upd_self]
    · rw [if_neg e, upd_ne _ _ e]
theorem Sr.setB {w wr : World} {lab : Nat → Nat} {ba bb : Nat} {px py : Nat → Option Addr} {zx zy : Nat → Option Tz} (h : Sr w wr lab ba bb px py zx zy) {k : Nat} (hk : k < 2) {p : Option Addr} {S : Nat → Prop} {z : Option Tz} (hx : Ys wr p S z) (hS : ∀ b, S b → lab b = 0 ∧ w.heap.size ≤ b ∧ b ≠ ba ∧ b ≠ bb) :
    ∃ lab', Sr w (wr.setCell ⟨bb, k, none⟩ (.pointer p)) lab' ba bb px (upd py k p) zx (upd zy k z) ∧ ∀ b, ¬ S b → lab' b = lab b := by
  classical
  have c := Chg.of_set wr bb k (.pointer p)
  have hsz : (wr.setCell ⟨bb, k, none⟩ (.pointer p)).heap.size = wr.heap.size := by simp
  have hno : ∀ b, ¬ S b → (fun b => if S b then k + 3 else lab b) b = lab b := fun b hb => if_neg hb
  refine ⟨fun b => if S b then k + 3 else lab b, ⟨fun j hj => ?_, fun j hj => ?_, fun b hb => ?_, fun b hb => ?_, ?_, ?_, c.row h.ra (fun t => h.hab t), ?_, h.hab, h.ga, h.gb, h.low.setCell h.gb _⟩, hno⟩
  · obtain ⟨T, h1, h2⟩ := h.sx j hj
    refine ⟨T, h1.chg c (fun b hb t => by have := h2 b hb; rw [t, h.lb] at this; omega), fun b hb => ?_⟩
    refine (hno b (fun hs => ?_)).trans (h2 b hb)
    have := (hS b hs).1
    have := h2 b hb
    omega
  · by_cases e : j = k
    · subst e
      refine ⟨S, by rw [upd_self, upd_self]; exact hx.chg c (fun b hb t => (hS b hb).2.2.2 t), fun b hb => if_pos hb⟩
    · obtain ⟨T, h1, h2⟩ := h.sy j hj
      refine ⟨T, by rw [upd_ne _ _ e, upd_ne _ _ e]; exact h1.chg c (fun b hb t => by have := h2 b hb; rw [t, h.lb] at this; omega), fun b hb => ?_⟩
      refine (hno b (fun hs => ?_)).trans (h2 b hb)
      have := (hS b hs).1
      have := h2 b hb
      omega
  · exact (hno b (fun hs => by have := (hS b hs).2.1; omega)).trans (h.old b hb)
  · exact (hno b (fun hs => by have := hx.low b hs; omega)).trans (h.new b (by omega))
  · exact (hno ba (fun hs => (hS ba hs).2.2.1 rfl)).trans h.la
  · exact (hno bb (fun hs => (hS bb hs).2.2.2 rfl)).trans h.lb
  · refine (h.rb.set k (.pointer p)).congr (fun j hj => ?_)
    by_cases e : j = k
    · rw [if_pos e, e, upd_self]
    · rw [if_neg e, upd_ne _ _ e]
end Go.Proofs.Ytbpldnlafilbbab
