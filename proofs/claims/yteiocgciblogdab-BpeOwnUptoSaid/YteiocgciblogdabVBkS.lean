import Derived.Test.YteiocgciblogdabVEq
import Derived.Deep.RegionHeld3
import Derived.Deep.DeepCutAuto
namespace Go.Proofs.Yteiocgciblogdab
open Go.RowKit
/-! The book's still: every list is what it was when it came. -/
/-- a list of lists of bytes as it is read -/
structure RdRows (w : World) (ao : Option Addr) (m cap : Nat) (A : Nat → Option Addr) (C : Nat → Nat) (l : Nat → List Int) : Prop where
  top : RdA w ao 1 m cap (fun i => .slice (A i) (l i).length (C i))
  row : ∀ i, i < m → RdA w (A i) 1 (l i).length (C i) (fun j => .int .u8 ((l i).getD j 0))
theorem RdRows.fresh {w w' : World} {ao : Option Addr} {m cap : Nat} {A : Nat → Option Addr} {C : Nat → Nat} {l : Nat → List Int} (h : RdRows w ao m cap A C l) (f : Below w.heap.size w w') : RdRows w' ao m cap A C l :=
  ⟨h.top.fresh f, fun i hi => (h.row i hi).fresh f⟩
set_option maxRecDepth 20000 in
set_option maxHeartbeats 4000000 in
theorem bstill_any {w : World} {g m lc zc : Nat} {lo zo : Option Addr} {A Z : Nat → Option Addr} {C D : Nat → Nat} {l : Nat → List Int} (c0 : w.cell? ⟨g, 0, none⟩ = some (.slice lo m lc)) (c2 : w.cell? ⟨g, 2, none⟩ = some (.slice zo m zc)) (hL : RdRows w lo m lc A C l) (hZ : RdRows w zo m zc Z D l) (hm : m ≤ 1048576) :
    Calls Try.prog 18 #[.pointer (some ⟨g, 0, none⟩)] w fun e w' => e = .returned (.bool true) ∧ Below w.heap.size w w' := by
  have HL := hidd hL
  have HZ := hidd hZ
  clear hL hZ
  go_enter Try.func18, Try.ntmps18
  go_wp2
  go_loopw [3] (fun iv wr => ∃ k : Nat, k ≤ m ∧ iv = .int .i64 k ∧ Below w.heap.size w wr) (fun iv _ => m - (intOf iv).toNat)
  case atStart => exact ⟨0, by omega, rfl, Below.refl _ _⟩
  case round =>
    obtain ⟨k, hk, rfl, hf⟩ := hrel
    have e0 := fresh_cell hf c0
    have e2 := fresh_cell hf c2
    by_cases hlt : k < m
    · obtain ⟨b1, o1, rfl, h1⟩ := (HL.out.fresh hf).top.one (by omega)
      obtain ⟨b2, o2, rfl, h2⟩ := (HZ.out.fresh hf).top.one (by omega)
      have d1 := h1 k hlt
      have d2 := h2 k hlt
      clear h1 h2
      have HA := hidd ((HL.out.row k hlt).fresh hf)
      have HB := hidd ((HZ.out.row k hlt).fresh hf)
      have i1 : (0 : Int) ≤ (k : Int) := Int.natCast_nonneg _
      have i2 : (k : Int) < (m : Int) := by omega
      have hd0 : Below wr.heap.size wr wr.drew := (Below.refl _ _).drew
      obtain ⟨n, en⟩ : ∃ n, n = (l k).length := ⟨_, rfl⟩
      rw [← en] at d1 d2 HA HB
      clear en
      generalize A k = ak at *
      generalize Z k = zk at *
      generalize C k = ck at *
      generalize D k = dk at *
      have hK : Hid (Calls Try.prog 11 #[.slice ak n ck, .slice zk n dk] wr.drew fun e w'' => e = .returned (.bool true) ∧ Below wr.heap.size wr w'') := by
        refine (eqBytes_same (HA.out.fresh hd0) (HB.out.fresh hd0) (fun _ _ => rfl)).mono ?_
        rintro e w'' ⟨rfl, h2⟩
        exact ⟨rfl, fresh_trans hd0 h2⟩
      have hS : Hid (∀ w', Below wr.heap.size wr w' → Below wr.heap.size wr w' ∧ w'.cell? ⟨g, 0, none⟩ = some (.slice (some ⟨b1, o1, none⟩) m lc) ∧ w'.cell? ⟨g, 2, none⟩ = some (.slice (some ⟨b2, o2, none⟩) m zc) ∧ w'.cell? ⟨b1, o1 + k, none⟩ = some (.slice ak n ck) ∧ w'.cell? ⟨b2, o2 + k, none⟩ = some (.slice zk n dk)) := fun w' h => ⟨h, fresh_cell h e0, fresh_cell h e2, fresh_cell h d1, fresh_cell h d2⟩
      clear HA HB
      go_upto_region 4 with fail
      go_region_held3 (fun w' => Below wr.heap.size wr w' ∧ w'.cell? ⟨g, 0, none⟩ = some (.slice (some ⟨b1, o1, none⟩) m lc) ∧ w'.cell? ⟨g, 2, none⟩ = some (.slice (some ⟨b2, o2, none⟩) m zc) ∧ w'.cell? ⟨b1, o1 + k, none⟩ = some (.slice ak n ck) ∧ w'.cell? ⟨b2, o2 + k, none⟩ = some (.slice zk n dk))
        (first
          | (with_reducible refine hS.out _ ?_; with_reducible exact hd0)
          | (with_reducible refine hS.out _ ?_; with_reducible exact hf9)
          | go_keep)
        ((go_at_call 11; have hc := hK.out; with_reducible refine hc.mono ?_; clear hc; rintro e w9 ⟨rfl, hf9⟩))
      all_goals
        have hf10 := fresh_trans hf hf9
        clear hS hK hd0 e0 e2 d1 d2 hf9 hf
        go_wp2
        go_roundw
        case rel => exact ⟨k + 1, by omega, by go_num, hf10⟩
        case measure => simp [intOf]; omega
    · go_wp2
      go_ret
      exact ⟨rfl, hf⟩
end Go.Proofs.Yteiocgciblogdab
