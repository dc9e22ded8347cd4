import Derived.Test.YteiocgciblogdabVBk
import Derived.Test.YteiocgciblogdabHeld
import Derived.Deep.DeepCutAuto
namespace Go.Proofs.Yteiocgciblogdab
open Go.RowKit
/-! The book's note. -/
/-- What a call may have changed among the blocks that were there: those of S alone. -/
structure Chg (w w' : World) (S : Nat → Prop) : Prop where
  low : Below 0 w w'
  block : ∀ b, b < w.heap.size → ¬ S b → w'.heap[b]? = w.heap[b]?
theorem Chg.trans {a b c : World} {S T : Nat → Prop} (h : Chg a b S) (k : Chg b c T) (hT : ∀ x, x < a.heap.size → T x → S x) : Chg a c S :=
  ⟨h.low.trans k.low, fun x hx hS => (k.block x (Nat.lt_of_lt_of_le hx h.low.size) (fun t => hS (hT x hx t))).trans (h.block x hx hS)⟩
theorem Chg.of_below {w w' : World} (S : Nat → Prop) (f : Below w.heap.size w w') : Chg w w' S := ⟨⟨f.os, f.tape, f.output, f.size, fun _ h => absurd h (by omega)⟩, fun b hb _ => f.block b hb⟩
theorem Chg.of_app {w w' : World} {v v' : Value} (h : App w w' v v') : Chg w w' (fun b => v.ownBlock = some b) := ⟨⟨h.grown.os, h.grown.tape, h.grown.output, h.grown.size, fun _ h => absurd h (by omega)⟩, fun b hb hS => h.grown.block b hb (fun e => hS e.symm)⟩
theorem Chg.of_set (w : World) (g j : Nat) (x : Value) : Chg w (w.setCell ⟨g, j, none⟩ x) (fun b => b = g) := ⟨(Below.refl 0 w).setCell (Nat.zero_le _) _, fun _ _ hS => Below.heap_setCell _ _ _ _ hS⟩
theorem infoSBt : (Try.prog.info? 22).map (fun i => (i.zero, i.size, i.bytes)) = some (some (.slice none 0 0), 1, 24) := by kernel_rfl
set_option maxRecDepth 20000 in
set_option maxHeartbeats 4000000 in
theorem bnote_any {w : World} {base g m : Nat} {vL vZ v : Value} {A Z : Nat → Value} {l : Nat → List Int} (h : BookR w base g m m vL vZ A Z l) (hv : OwnB w base v (l m)) (o1 : Off vL v) (o2 : Off vZ v) (o3 : ∀ i, i < m → Off (A i) v) (o4 : ∀ j, j < m → Off v (Z j)) (hm : m ≤ 1048576) (hl : (l m).length ≤ 140737488351232) (hbase : base ≤ w.heap.size) :
    Calls Try.prog 16 #[.pointer (some ⟨g, 0, none⟩), v] w fun e w' => e = .returned (.tuple #[]) ∧ ∃ vL' vZ' z, BookR w' base g (m + 1) (m + 1) vL' vZ' (upd A m v) (upd Z m z) l ∧ Chg w w' (fun b => b = g ∨ vL.ownBlock = some b ∨ vZ.ownBlock = some b) ∧ (∀ x, z.ownBlock = some x → w.heap.size ≤ x) := by
  have H := hidd h
  have HV := hidd hv
  have O3 := hidd o3
  have O4 := hidd o4
  have c0 : w.cell? ⟨g, 0, none⟩ = some vL := h.row.cell (i := 0) (by decide)
  have f0 := h.row.frozen
  have hlow := h.low
  have hgl := h.row.lt
  obtain ⟨lo, lc, rfl, _⟩ := h.L.rd
  obtain ⟨av, cv, rfl, rv⟩ := Own.rd hv
  have HO := hidd (fun (ob : Obj) => (h.L.congr (fun j hj => (upd_lt A (.slice av (l m).length cv) (by omega : j < m)).symm)).kept (fresh_alloc w ob))
  have hnew : Hid (∀ (w0 : World) (t : TypeId), (w0.alloc (.cells #[.slice av (l m).length cv] t)).cell? ⟨w0.heap.size, 0, none⟩ = some (upd A m (.slice av (l m).length cv) m)) := fun w0 t => by rw [new_cell, upd_at]
  have hone : Hid ((upd A m (.slice av (l m).length cv) m).oneCell' = true) := by show _ = true; rw [upd_at]; rfl
  clear h hv o3 o4
  go_enter Try.func16, Try.ntmps16
  go_wp2_with (at_builtin; refine wpList_app1 _ rfl _ _ 38 rfl base 22 (.slice none 0 0) 24 Try.underlying38 infoSBt rfl _ m (upd A m (.slice av (l m).length cv)) rfl (HO.out _) _ 1 rfl (hnew.out _ _) hone.out (by omega) (by omega) (by simp; omega) ?_)
  intro vL' w6 hown happ
  have fA := fresh_alloc w (.cells #[.slice av (l m).length cv] 22)
  have hK1 := H.out.kept fA
  have hne : (Value.slice lo m lc).ownBlock ≠ some g := fun e => by have := (hK1.L.lt g e).1; omega
  have r6 := hK1.row.of_block (happ.grown.block g hK1.row.lt hne.symm)
  have e0 : w6.cell? ⟨g, 0, none⟩ = some (.slice lo m lc) := r6.cell (i := 0) (by decide)
  have f6 := r6.frozen
  have hv6 : OwnB w6 base (.slice av (l m).length cv) (l m) := happ.own (Own.kept HV.out fA) o1
  have HB := hidd (hK1.addL (Own.kept HV.out fA) o1 o2 O3.out O4.out hown happ)
  have HCg := hidd (((Chg.of_below (fun b => b = g ∨ (Value.slice lo m lc).ownBlock = some b ∨ vZ.ownBlock = some b) fA).trans (Chg.of_app happ) (fun x _ t => .inr (.inl t))).trans (Chg.of_set w6 g 0 vL') (fun x _ t => .inl t))
  have HV7 : Hid (OwnB (w6.setCell ⟨g, 0, none⟩ vL') base (.slice av (l m).length cv) (l m)) := OwnSet hv6 hlow
  have OL7 : Hid (Off vL' (.slice av (l m).length cv)) := happ.off (Own.kept HV.out fA) o1
  have hsz6 : base ≤ w6.heap.size := by have := happ.grown.size; simp at this; omega
  have hsw6 : Hid (w.heap.size ≤ w6.heap.size) := by show _ ≤ _; have := happ.grown.size; simp at this; omega
  obtain ⟨lo', lc', rfl, _⟩ := hown.rd
  clear hown happ fA hK1 hne r6 hv6 c0 f0 H HV O4 HO hnew hone
  go_upto_region 1 with fail
  clear e0 f6
  generalize hw7 : w6.setCell ⟨g, 0, none⟩ (.slice lo' (m + 1) lc') = w7 at *
  have hsz7 : base ≤ w7.heap.size := by rw [← hw7]; simpa using hsz6
  have hsw7 : Hid (w.heap.size ≤ w7.heap.size) := by show _ ≤ _; rw [← hw7]; simpa using hsw6.out
  clear hw7
  have e2 : w7.cell? ⟨g, 2, none⟩ = some vZ := HB.out.row.cell (i := 2) (by decide)
  have f7 := HB.out.row.frozen
  obtain ⟨zo, zc, rfl, _⟩ := HB.out.top.rd
  have hd0 : Below w7.heap.size w7 w7.drew := (Below.refl _ _).drew
  have HC : Hid (Calls Try.prog 6 #[.slice av (l m).length cv] w7.drew fun e w' => ∃ a c, e = .returned (.slice a (l m).length c) ∧ (w'.cell? ⟨g, 2, none⟩ = some (.slice zo m zc) ∧ ∀ i, w'.frozen? ⟨g, i, none⟩ = false) ∧ Hid (BookR w' base g (m + 1) m (.slice lo' (m + 1) lc') (.slice zo m zc) (upd A m (.slice av (l m).length cv)) Z l ∧ Own w' w7.heap.size 5 1 (.slice a (l m).length c) (l m).length (fun j => .int .u8 ((l m).getD j 0)) ∧ Below w7.heap.size w7 w')) := by
    refine (copyB_any ((Own.rda HV7.out).fresh hd0) hl).mono ?_
    rintro e w' ⟨v, rfl, ho, hf⟩
    obtain ⟨a, c, rfl, _⟩ := ho.rd
    have hf' := fresh_trans hd0 hf
    have hB' := HB.out.kept hf'
    exact ⟨a, c, rfl, ⟨hB'.row.cell (i := 2) (by decide), hB'.row.frozen⟩, hB', Own.weaken ho hd0.size, hf'⟩
  clear HV7 rv
  have t0 : w7.drew.cell? ⟨g, 2, none⟩ = some (.slice zo m zc) := e2
  have k2 := t0
  have y2 := t0
  go_region_law (first
    | (go_simp; go_at_call 6; refine HC.out.mono ?_; rintro e w9 ⟨a9, c9, rfl, ⟨k2, k3⟩, H9⟩; have k4 := fresh_cell (fresh_alloc w9 (.cells #[.slice a9 (l m).length c9] 22)) k2)
    | (refine step_app1 _ (by rfl) _ _ _ (by rfl) base 22 (.slice none 0 0) 24 Try.underlying38 infoSBt rfl _ m (upd Z m (.slice a9 (l m).length c9)) (by rfl) ((H9.out.1.top.congr (fun j hj => (upd_lt Z (.slice a9 (l m).length c9) (by omega : j < m)).symm)).kept (fresh_alloc _ _)) w9.heap.size 1 (by rfl) (by rw [new_cell, upd_at]) (by rw [upd_at]; rfl) (by omega) (by omega) (by simp; have := H9.out.2.2.size; omega) ?_; intro g' cap' w10 hown' happ; have y := happ.row ((H9.out.1.top.congr (fun j hj => (upd_lt Z (.slice a9 (l m).length c9) (by omega : j < m)).symm)).kept (fresh_alloc _ _)) (H9.out.1.row.of_block ((fresh_alloc w9 (.cells #[.slice a9 (l m).length c9] 22)).block _ H9.out.1.row.lt)) hlow; have y2 : w10.cell? ⟨g, 2, none⟩ = some (.slice zo m zc) := y.cell (i := 2) (by decide); have yf := y.frozen))
  all_goals
    have hfb := fresh_alloc w9 (.cells #[.slice a9 (l m).length c9] 22)
    obtain ⟨hB9, hO9, hf9⟩ := H9.out
    have hv10 : OwnB (w9.alloc (.cells #[.slice a9 (l m).length c9] 22)) base (.slice a9 (l m).length c9) (l m) := Own.kept (Own.weaken hO9 hsz7) hfb
    have HB10 := hidd ((hB9.kept hfb).addZ hv10 (off_own HB.out.L hO9) (off_own HB.out.top hO9) (fun i hi => off_own (HB.out.a i hi) hO9) hown' happ)
    have HC10 := hidd (((((HCg.out.trans (Chg.of_below (fun _ => False) hf9) (fun _ _ t => t.elim)).trans (Chg.of_below (fun _ => False) hfb) (fun _ _ t => t.elim)).trans (Chg.of_app happ) (fun _ _ t => .inr (.inr t)))).trans (Chg.of_set w10 g 2 (.slice (some ⟨g', 0, none⟩) (m + 1) cap')) (fun _ _ t => .inl t))
    have HZ9 := hidd (show ∀ x, (Value.slice a9 (l m).length c9).ownBlock = some x → w.heap.size ≤ x from fun x hx => Nat.le_trans hsw7.out (hO9.lt x hx).1)
    clear hfb hB9 hO9 hf9 hv10 hown' happ y y2 yf k4 k2 k3 H9 HC HB HCg
    go_end0
    exact ⟨rfl, _, _, _, HB10.out, HC10.out, HZ9.out⟩
end Go.Proofs.Yteiocgciblogdab
