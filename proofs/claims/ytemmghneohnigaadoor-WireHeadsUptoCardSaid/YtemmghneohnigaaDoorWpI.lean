import Derived.Test.YtemmghneohnigaaDoorWpH
namespace Go.Proofs.YtemmghneohnigaaDoor
open Go.RowKit
/-! The printer. -/
structure Prt (w : World) (pb base : Nat) (v : Value) (l : List Int) : Prop where
  blk : Blk w pb 69 #[v]
  txt : TxG w base v l
  ne : v.ownBlock ≠ some pb
  bp : base ≤ pb
theorem Prt.chg {w w' : World} {pb base : Nat} {v : Value} {l : List Int} {S : Nat → Prop} (h : Prt w pb base v l) (c : Chg w w' S) (h1 : ¬ S pb) (h2 : ∀ g, v.ownBlock = some g → ¬ S g) : Prt w' pb base v l := ⟨h.blk.chg c h1, h.txt.chg c h2, h.ne, h.bp⟩
theorem Prt.fresh {w w' : World} {pb base : Nat} {v : Value} {l : List Int} (h : Prt w pb base v l) (f : Below w.heap.size w w') : Prt w' pb base v l := h.chg (Chg.of_below (fun _ => False) f) (fun h => h) (fun _ _ h => h)
set_option maxRecDepth 20000 in
theorem full_any {w : World} {pb base : Nat} {v : Value} {l : List Int} (h : Prt w pb base v l) :
    Calls Tryd.prog 33 #[.pointer (some ⟨pb, 0, none⟩)] w fun e w' => e = .returned (.bool (decide (8192 < l.length))) ∧ w' = w := by
  obtain ⟨g, cap, rfl, hbg, hg, h1, h2, ht, hr⟩ := h.txt
  have c0 := h.blk.cell 0
  simp at c0
  clear h ht hr
  unfold maxLen at h2
  generalize l.length = n at *
  by_cases hn : 8192 < n
  · have b1 : decide ((8192 : Int) < (n : Int)) = true := by simp; omega
    have E : Hid (decide (8192 < n) = true) := by show _ = _; simp [hn]
    go_enter Tryd.func33, Tryd.ntmps33
    go_wp2
    go_ret
    exact ⟨by first | exact ret_bool E.out.symm | simp [hn], rfl⟩
  · have b1 : decide ((8192 : Int) < (n : Int)) = false := by simp; omega
    have E : Hid (decide (8192 < n) = false) := by show _ = _; simp [hn]
    go_enter Tryd.func33, Tryd.ntmps33
    go_wp2
    go_ret
    exact ⟨by first | exact ret_bool E.out.symm | simp [hn], rfl⟩
set_option maxRecDepth 20000 in
set_option maxHeartbeats 1000000 in
theorem part_any {w : World} {pb base : Nat} {v : Value} {l s : List Int} (h : Prt w pb base v l) (hs : Byt s) (hn : l.length + s.length + 1 ≤ 140737488355328) :
    Calls Tryd.prog 48 #[.pointer (some ⟨pb, 0, none⟩), .string (strOfNums s)] w fun e w' => e = .returned (.tuple #[]) ∧ (∃ v', Prt w' pb base v' (l ++ 32 :: s)) ∧ Chg w w' (fun b => base ≤ b) := by
  have hbp := h.bp
  have hpb := h.blk.lt
  have hvb : ∀ g, v.ownBlock = some g → base ≤ g := fun g hg => by
    obtain ⟨g', cap, rfl, hbg, _⟩ := h.txt
    simp [Value.ownBlock] at hg
    omega
  have c0 := h.blk.cell 0
  simp at c0
  have f0 := h.blk.frozen 0
  have fa := fresh_alloc w (.cells #[.int .u8 32] 5)
  obtain ⟨v1, w1, hr1, ht1, hc1, hv1⟩ := run_app_one (h.txt.fresh fa) (new_cell w (.int .u8 32) 5) (c := 1) (by simp; omega) (by omega) 22
  have hk1 : Chg w w1 (fun b => base ≤ b) := ((Chg.of_below (fun b => base ≤ b) fa)).trans hc1 (fun b _ hb => hvb b hb)
  have hB1 := (h.blk.fresh fa).chg hc1 (fun e => h.ne e)
  have y1 := hB1.cell 0
  simp at y1
  have z1 := hB1.frozen 0
  have hne1 : v1.ownBlock ≠ some pb := fun e => by
    rcases hv1 pb e with q | q
    · exact h.ne q
    · have := fa.size; omega
  have hB2 := hB1.put 0 v1
  have ht2 := ht1.chg (Chg.of_set w1 pb 0 v1) (fun g hg e => hne1 (by rw [hg, e]))
  have hk2 := hk1.trans (Chg.of_set w1 pb 0 v1) (fun b _ e => by rw [e]; exact hbp)
  obtain ⟨v3, w3, hr3, ht3, hc3, hv3⟩ := run_app_str ht2 hs (by have := hk2.size; omega) (by simp; omega) 22
  have hvb1 : ∀ g, v1.ownBlock = some g → base ≤ g := fun g hg => by
    obtain ⟨g', cap, rfl, hbg, _⟩ := ht1
    simp [Value.ownBlock] at hg
    omega
  have hk3 := hk2.trans hc3 (fun b _ hb => hvb1 b hb)
  have hB3 := hB2.chg hc3 (fun e => hne1 e)
  have y3 := hB3.cell 0
  simp at y3
  have z3 := hB3.frozen 0
  have hne3 : v3.ownBlock ≠ some pb := fun e => by
    rcases hv3 pb e with q | q
    · exact hne1 q
    · have := hk2.size; omega
  have hB4 := hB3.put 0 v3
  have ht4 := ht3.chg (Chg.of_set w3 pb 0 v3) (fun g hg e => hne3 (by rw [hg, e]))
  have hk4 := hk3.trans (Chg.of_set w3 pb 0 v3) (fun b _ e => by rw [e]; exact hbp)
  have HP : Hid (Prt (w3.setCell ⟨pb, 0, none⟩ v3) pb base v3 (l ++ 32 :: s)) := ⟨hB4, by simpa using ht4, hne3, hbp⟩
  have HK := hidd hk4
  have y2 := hB2.cell 0
  simp at y2
  have z2 := hB2.frozen 0
  obtain ⟨g1, k1, e1, _⟩ := ht1
  obtain ⟨g3, k3, e3, _⟩ := ht3
  obtain ⟨g0, k0, e0, _⟩ := h.txt
  clear h hk1 hk2 hk3 hk4 hB1 hB2 hB3 hB4 ht2 ht4 hc1 hc3 hv1 hv3 hvb hvb1 hne1 hne3 fa
  subst e1 e3 e0
  obtain ⟨n1, en1⟩ : ∃ n1, n1 = (l ++ [32]).length := ⟨_, rfl⟩
  obtain ⟨n3, en3⟩ : ∃ n3, n3 = (l ++ [32] ++ s).length := ⟨_, rfl⟩
  rw [← en1] at hr1 hr3 y2
  rw [← en3] at hr3 HP HK
  clear en1 en3
  go_enter Tryd.func48, Tryd.ntmps48
  go_wp2_with (first | (at_builtin; refine wpList_append_any rfl _ _ 22 22 rfl _ _ rfl rfl _ _ hr1 ?_) | (at_builtin; refine wpList_append_any rfl _ _ 22 9 rfl _ _ rfl rfl _ _ hr3 ?_))
  go_end0
  exact ⟨rfl, ⟨_, HP.out⟩, HK.out⟩
end Go.Proofs.YtemmghneohnigaaDoor
