import Derived.Test.YtbpldnlafilbbabNgSc
namespace Go.Proofs.Ytbpldnlafilbbab
open Go.RowKit
/-! A round of a script: two indexes on either side, and the step's own struct in block bo. -/
def opF (s : Sc) (i : Nat) : Nat → Value := fun j => if j = 0 then .int .i64 (s.WH i) else if j = 1 then .int .i64 (s.KD i) else if j = 2 then .slice (s.TO i) (s.TL i) (s.TC i) else if j = 3 then .int .i64 (s.NN i) else .int .i64 (s.DP i)
structure Rn (w z : World) (lab : Nat → Nat) (ba bb bo : Nat) (px py : Nat → Option Addr) (zx zy : Nat → Option Tz) (s : Sc) (i : Nat) : Prop where
  sr : Sr w z lab ba bb px py zx zy
  ro : z.rowIs bo 43 5 (opF s i)
  lo : lab bo = 0
theorem Rn.cells {w z : World} {lab : Nat → Nat} {ba bb bo : Nat} {px py : Nat → Option Addr} {zx zy : Nat → Option Tz} {s : Sc} {i : Nat} (h : Rn w z lab ba bb bo px py zx zy s i) {k : Nat} (hk : k < 2) : (z.cell? ⟨ba, k, none⟩ = some (.pointer (px k)) ∧ z.cell? ⟨bb, k, none⟩ = some (.pointer (py k)) ∧ z.cell? ⟨bo, 2, none⟩ = some (.slice (s.TO i) (s.TL i) (s.TC i)) ∧ z.cell? ⟨bo, 3, none⟩ = some (.int .i64 (s.NN i)) ∧ z.cell? ⟨bo, 4, none⟩ = some (.int .i64 (s.DP i))) :=
  ⟨h.sr.ra.cell (i := k) hk, h.sr.rb.cell (i := k) hk, h.ro.cell (i := 2) (by omega), h.ro.cell (i := 3) (by omega), h.ro.cell (i := 4) (by omega)⟩
theorem Rn.fresh {w z : World} {lab : Nat → Nat} {ba bb bo : Nat} {px py : Nat → Option Addr} {zx zy : Nat → Option Tz} {s : Sc} {i : Nat} {z' : World} (h : Rn w z lab ba bb bo px py zx zy s i) (f : Below z.heap.size z z') : Rn w z' lab ba bb bo px py zx zy s i :=
  ⟨h.sr.fresh f, (Chg.of_below (fun _ => False) f).row h.ro (fun t => t), h.lo⟩
theorem lbl_lt (lab : Nat → Nat) (a b l : Nat) {x : Nat} (h : x < a) : lbl lab a b l x = lab x := if_neg (by omega)
theorem Rn.news {w z : World} {lab : Nat → Nat} {ba bb bo : Nat} {px py : Nat → Option Addr} {zx : Nat → Option Tz} {s : Sc} {i : Nat} (h : Rn w z lab ba bb bo px py zx zx s i) {k : Nat} (hk : k < 2) {z4 z5 : World} {p q : Option Addr} {SX SY : Nat → Prop} {t : Option Tz} (f4 : Below z.heap.size z z4) (hx : Xs z4 p SX t) (sx : ∀ b, SX b → z.heap.size ≤ b) (f5 : Below z4.heap.size z4 z5) (hy : Ys z5 q SY t) (sy : ∀ b, SY b → z4.heap.size ≤ b) :
    ∃ lab', Sr w ((z5.setCell ⟨ba, k, none⟩ (.pointer p)).setCell ⟨bb, k, none⟩ (.pointer q)) lab' ba bb (upd px k p) (upd py k q) (upd zx k t) (upd zx k t) := by
  have h5 := (h.sr.fresh f4).fresh f5
  have l1 := h.sr.ra.lt
  have l2 := h.sr.rb.lt
  have l3 := h.sr.low.size
  have l4 := f4.size
  have l5 := f5.size
  obtain ⟨lab1, g1, g2⟩ := h5.setA hk (hx.fresh f5) (fun b hb => ⟨h.sr.new b (sx b hb), by have := sx b hb; omega, by have := sx b hb; omega, by have := sx b hb; omega⟩)
  have hl : ∀ b, SY b → lab1 b = 0 := fun b hb => by
    rw [g2 b (fun hs => by have := hx.low b hs; have := sy b hb; omega)]
    exact h.sr.new b (by have := sy b hb; omega)
  obtain ⟨lab2, g3, _⟩ := g1.setB hk (hy.chg (Chg.of_set z5 ba k (.pointer p)) (fun b hb t => by have := sy b hb; omega)) (fun b hb => ⟨hl b hb, by have := sy b hb; omega, by have := sy b hb; omega, by have := sy b hb; omega⟩)
  exact ⟨lab2, g3⟩
theorem Rn.appendX {w z : World} {lab : Nat → Nat} {ba bb bo : Nat} {px py : Nat → Option Addr} {zx zy : Nat → Option Tz} {s : Sc} {i : Nat} (h : Rn w z lab ba bb bo px py zx zy s i) {k : Nat} (hk : k < 2) {ao : Option Addr} {m c : Nat} {t : Nat → Int} (ht : RdA z ao 1 m c (fun i => .int .i64 (t i))) (hS : ∀ b o, ao = some ⟨b, o, none⟩ → 0 < m → lab b = 0) (hf : ∀ i, i < m → fits (t i)) (hn : (lenZ (zx k) + m) * 8 ≤ 140737488351232) :
    Calls Try.prog 8 #[.pointer (px k), .slice ao m c] z fun e w' => e = .returned (.tuple #[]) ∧ (w'.cell? ⟨ba, k, none⟩ = some (.pointer (px k)) ∧ w'.cell? ⟨bb, k, none⟩ = some (.pointer (py k)) ∧ w'.cell? ⟨bo, 2, none⟩ = some (.slice (s.TO i) (s.TL i) (s.TC i)) ∧ w'.cell? ⟨bo, 3, none⟩ = some (.int .i64 (s.NN i)) ∧ w'.cell? ⟨bo, 4, none⟩ = some (.int .i64 (s.DP i))) ∧ Hid (Chg z w' (fun b => lab b = k + 1) ∧ ∃ lab', Rn w w' lab' ba bb bo px py (upd zx k (apZ m t (zx k))) zy s i ∧ ∀ b, b < z.heap.size → lab' b = lab b) := by
  refine (sr_appendX h.sr hk ht hS hf hn).mono ?_
  rintro e w' ⟨rfl, hc, hs⟩
  have hr : Rn w w' (lbl lab z.heap.size w'.heap.size (k + 1)) ba bb bo px py (upd zx k (apZ m t (zx k))) zy s i := ⟨hs, hc.row h.ro (fun t => by have := h.lo; omega), by rw [lbl_lt _ _ _ _ h.ro.lt]; exact h.lo⟩
  exact ⟨rfl, hr.cells hk, hc, _, hr, fun b hb => lbl_lt _ _ _ _ hb⟩
theorem Rn.appendY {w z : World} {lab : Nat → Nat} {ba bb bo : Nat} {px py : Nat → Option Addr} {zx zy : Nat → Option Tz} {s : Sc} {i : Nat} (h : Rn w z lab ba bb bo px py zx zy s i) {k : Nat} (hk : k < 2) {ao : Option Addr} {m c : Nat} {t : Nat → Int} (ht : RdA z ao 1 m c (fun i => .int .i64 (t i))) (hS : ∀ b o, ao = some ⟨b, o, none⟩ → 0 < m → lab b = 0) (hn : (lenZ (zy k) + m) * 8 ≤ 140737488351232) :
    Calls Try.prog 9 #[.pointer (py k), .slice ao m c] z fun e w' => e = .returned (.tuple #[]) ∧ (w'.cell? ⟨ba, k, none⟩ = some (.pointer (px k)) ∧ w'.cell? ⟨bb, k, none⟩ = some (.pointer (py k)) ∧ w'.cell? ⟨bo, 2, none⟩ = some (.slice (s.TO i) (s.TL i) (s.TC i)) ∧ w'.cell? ⟨bo, 3, none⟩ = some (.int .i64 (s.NN i)) ∧ w'.cell? ⟨bo, 4, none⟩ = some (.int .i64 (s.DP i))) ∧ Hid (Chg z w' (fun b => lab b = k + 3) ∧ ∃ lab', Rn w w' lab' ba bb bo px py zx (upd zy k (apZ m t (zy k))) s i ∧ ∀ b, b < z.heap.size → lab' b = lab b) := by
  refine (sr_appendY h.sr hk ht hS hn).mono ?_
  rintro e w' ⟨rfl, hc, hs⟩
  have hr : Rn w w' (lbl lab z.heap.size w'.heap.size (k + 3)) ba bb bo px py zx (upd zy k (apZ m t (zy k))) s i := ⟨hs, hc.row h.ro (fun t => by have := h.lo; omega), by rw [lbl_lt _ _ _ _ h.ro.lt]; exact h.lo⟩
  exact ⟨rfl, hr.cells hk, hc, _, hr, fun b hb => lbl_lt _ _ _ _ hb⟩
theorem Rn.cutX {w z : World} {lab : Nat → Nat} {ba bb bo : Nat} {px py : Nat → Option Addr} {zx zy : Nat → Option Tz} {s : Sc} {i : Nat} (h : Rn w z lab ba bb bo px py zx zy s i) {k : Nat} (hk : k < 2) (n : Int) :
    Calls Try.prog 18 #[.pointer (px k), .int .i64 n] z fun e w' => e = .returned (.tuple #[]) ∧ (w'.cell? ⟨ba, k, none⟩ = some (.pointer (px k)) ∧ w'.cell? ⟨bb, k, none⟩ = some (.pointer (py k)) ∧ w'.cell? ⟨bo, 2, none⟩ = some (.slice (s.TO i) (s.TL i) (s.TC i)) ∧ w'.cell? ⟨bo, 3, none⟩ = some (.int .i64 (s.NN i)) ∧ w'.cell? ⟨bo, 4, none⟩ = some (.int .i64 (s.DP i))) ∧ Hid (Chg z w' (fun b => lab b = k + 1) ∧ ∃ lab', Rn w w' lab' ba bb bo px py (upd zx k (cutZ n (zx k))) zy s i ∧ ∀ b, b < z.heap.size → lab' b = lab b) := by
  refine (sr_cutX h.sr hk n).mono ?_
  rintro e w' ⟨rfl, hc, hs⟩
  have hr : Rn w w' (lbl lab z.heap.size w'.heap.size (k + 1)) ba bb bo px py (upd zx k (cutZ n (zx k))) zy s i := ⟨hs, hc.row h.ro (fun t => by have := h.lo; omega), by rw [lbl_lt _ _ _ _ h.ro.lt]; exact h.lo⟩
  exact ⟨rfl, hr.cells hk, hc, _, hr, fun b hb => lbl_lt _ _ _ _ hb⟩
theorem Rn.cutY {w z : World} {lab : Nat → Nat} {ba bb bo : Nat} {px py : Nat → Option Addr} {zx zy : Nat → Option Tz} {s : Sc} {i : Nat} (h : Rn w z lab ba bb bo px py zx zy s i) {k : Nat} (hk : k < 2) (n : Int) (hn : lenZ (zy k) * 8 ≤ 140737488351232) :
    Calls Try.prog 12 #[.pointer (py k), .int .i64 n] z fun e w' => e = .returned (.tuple #[]) ∧ (w'.cell? ⟨ba, k, none⟩ = some (.pointer (px k)) ∧ w'.cell? ⟨bb, k, none⟩ = some (.pointer (py k)) ∧ w'.cell? ⟨bo, 2, none⟩ = some (.slice (s.TO i) (s.TL i) (s.TC i)) ∧ w'.cell? ⟨bo, 3, none⟩ = some (.int .i64 (s.NN i)) ∧ w'.cell? ⟨bo, 4, none⟩ = some (.int .i64 (s.DP i))) ∧ Hid (Chg z w' (fun b => lab b = k + 3) ∧ ∃ lab', Rn w w' lab' ba bb bo px py zx (upd zy k (cutZ n (zy k))) s i ∧ ∀ b, b < z.heap.size → lab' b = lab b) := by
  refine (sr_cutY h.sr hk n hn).mono ?_
  rintro e w' ⟨rfl, hc, hs⟩
  have hr : Rn w w' (lbl lab z.heap.size w'.heap.size (k + 3)) ba bb bo px py zx (upd zy k (cutZ n (zy k))) s i := ⟨hs, hc.row h.ro (fun t => by have := h.lo; omega), by rw [lbl_lt _ _ _ _ h.ro.lt]; exact h.lo⟩
  exact ⟨rfl, hr.cells hk, hc, _, hr, fun b hb => lbl_lt _ _ _ _ hb⟩
theorem upd_len {z : Nat → Option Tz} {k t t' : Nat} {x : Option Tz} (hz : ∀ k, k < 2 → lenZ (z k) ≤ t) (hx : lenZ x ≤ t') (ht : t ≤ t') : ∀ j, j < 2 → lenZ (upd z k x j) ≤ t' := fun j hj => by
  by_cases e : j = k
  · subst e; rw [upd_self]; exact hx
  · rw [upd_ne _ _ e]; exact Nat.le_trans (hz j hj) ht
theorem upd_nil {px py : Nat → Option Addr} {k : Nat} {p q : Option Addr} (h : ∀ k, k < 2 → (px k = none ↔ py k = none)) (hp : p = none ↔ q = none) : ∀ j, j < 2 → (upd px k p j = none ↔ upd py k q j = none) := fun j hj => by
  by_cases e : j = k
  · subst e; rw [upd_self, upd_self]; exact hp
  · rw [upd_ne _ _ e, upd_ne _ _ e]; exact h j hj
end Go.Proofs.Ytbpldnlafilbbab
