import Derived.Test.YtknfddakpfkcfaaJdR
import Derived.Test.YtknfddakpfkcfaaNgO
namespace Go.Proofs.Ytknfddakpfkcfaa
open Go.RowKit Go.Shelf Go.Sort
/-! Lists that are written over: turned, over. -/
theorem own_blk {w : World} {base : Nat} {e : TypeId} {sz : Nat} {u : Option Addr} {n c : Nat} {cs : Nat → Value} (h : Own w base e sz (.slice u n c) n cs) (hn : 0 < n) : ∃ g, u = some ⟨g, 0, none⟩ ∧ base ≤ g ∧ g < w.heap.size := by
  rcases h.2 with ⟨e, h0⟩ | ⟨g, cap, cur, e, hb, hg, _⟩
  · exact absurd h0 (by omega)
  · cases e
    exact ⟨g, rfl, hb, (Array.getElem?_eq_some_iff.1 hg).1⟩
theorem own_fz {w : World} {base : Nat} {e : TypeId} {sz : Nat} {g n c : Nat} {cs : Nat → Value} (h : Own w base e sz (.slice (some ⟨g, 0, none⟩) n c) n cs) : ∀ i, w.frozen? ⟨g, i, none⟩ = false := by
  rcases h.2 with ⟨e, _⟩ | ⟨g', cap, cur, e, hb, hg, _⟩
  · cases e
  · cases e
    intro i
    simp [World.frozen?, hg]
theorem chg_own {w w' : World} {g : Option Nat} (h : Chg w w' (fun b => g = some b)) {B : Nat} {a : World} (hb : Below B a w) (hB : B ≤ w.heap.size) (hg : ∀ b, g = some b → B ≤ b) : Below B a w' := h.below hb hB hg
theorem Own.put {w : World} {base : Nat} {e : TypeId} {sz g cap n : Nat} {cs : Nat → Value} (h : Own w base e sz (.slice (some ⟨g, 0, none⟩) n cap) n cs) (j : Nat) (x : Value) : Own (w.setCell ⟨g, j, none⟩ x) base e sz (.slice (some ⟨g, 0, none⟩) n cap) n (fun i => if i = j then x else cs i) := by
  have := (World.ownsRow.stored h j x).1
  unfold Own
  have e1 : (List.range (n * sz)).map (fun i => if i = j then x else cs i) = ((List.range (n * sz)).map cs).set j x := by
    refine List.ext_getElem? (fun i => ?_)
    rw [List.getElem?_set]
    by_cases hi : i < n * sz
    · by_cases e : j = i
      · subst e
        simp [hi]
      · rw [if_neg e]
        simp [hi]
        exact fun q => absurd q.symm e
    · simp [hi]
      omega
  rw [e1]
  exact this
set_option maxRecDepth 20000 in
set_option maxHeartbeats 1600000 in
theorem turned_any {w : World} {base n c : Nat} {u : Option Addr} {f : Nat → Int} (h : Own w base 3 1 (.slice u n c) n (fun i => .int .i64 (f i))) (hn : n ≤ 17592186043904) :
    Calls Try.prog 41 #[.slice u n c] w fun e w' => e = .returned (.tuple #[]) ∧ ∃ f' : Nat → Int, Own w' base 3 1 (.slice u n c) n (fun i => .int .i64 (f' i)) ∧ Chg w w' (fun b => (Value.slice u n c).ownBlock = some b) := by
  have HO := hidd h
  obtain ⟨hf, HHF⟩ : ∃ k : Nat, Hid (k = n / 2) := ⟨_, rfl⟩
  have eh : (n : Int).tdiv 2 = (hf : Int) := by rw [Int.tdiv_eq_ediv_of_nonneg (by omega), HHF.out]; omega
  have eh2 : (n : Int) / 2 = (hf : Int) := by rw [HHF.out]; omega
  have hh : hf + hf ≤ n := by have := HHF.out; omega
  clear h
  go_enter Try.func41, Try.ntmps41
  go_wp2
  go_loopw [2] (fun i wr => ∃ k : Nat, k ≤ hf ∧ i = .int .i64 (k : Int) ∧ ∃ f' : Nat → Int, Hid (Own wr base 3 1 (.slice u n c) n (fun i => .int .i64 (f' i))) ∧ Hid (Chg w wr (fun b => (Value.slice u n c).ownBlock = some b))) (fun i _ => hf - (intOf i).toNat)
  case atStart => exact ⟨0, by omega, rfl, f, HO, Chg.refl _ _⟩
  case round =>
    clear HO
    obtain ⟨k, hk, rfl, f', HO, HC⟩ := hrel
    by_cases hlt : k < hf
    · obtain ⟨g, rfl, _, _⟩ := own_blk HO.out (by omega)
      obtain ⟨b1, o1, e1, h1⟩ := (own_rda HO.out).one (by omega)
      cases e1
      obtain ⟨q, HQ⟩ : ∃ q, Hid (q + k + 1 = n) := ⟨n - 1 - k, by show _ = _; omega⟩
      have e3 : (n : Int) - 1 - (k : Int) = (q : Int) := by have := HQ.out; omega
      have x1 := h1 k (by omega)
      have x2 := h1 q (by have := HQ.out; omega)
      simp only [Nat.zero_add] at x1 x2
      have fz := own_fz HO.out
      have k0 : (0 : Int) ≤ (k : Int) := by omega
      have k1 : (k : Int) < (n : Int) := by omega
      have k2 : (k : Int) < (hf : Int) := by omega
      have q0 : (0 : Int) ≤ (q : Int) := by omega
      have q1 : (q : Int) < (n : Int) := by have := HQ.out; omega
      have p1 := HO.out.put k (.int .i64 (f' q))
      have HP2 := hidd (p1.put q (.int .i64 (f' k)))
      obtain ⟨b2, o2, e2, h2⟩ := (own_rda p1).one (by omega)
      cases e2
      have y2 := h2 q (by have := HQ.out; omega)
      simp only [Nat.zero_add] at y2
      rw [if_neg (by have := HQ.out; omega)] at y2
      have fz2 := own_fz p1
      have HC2 : Hid (Chg w ((wr.setCell ⟨g, k, none⟩ (.int .i64 (f' q))).setCell ⟨g, q, none⟩ (.int .i64 (f' k))) (fun b => (Value.slice (some ⟨g, 0, none⟩) n c).ownBlock = some b)) := (HC.out.trans (Chg.of_set wr g k (.int .i64 (f' q))) (fun b _ e => by rw [e]; rfl)).trans (Chg.of_set _ g q (.int .i64 (f' k))) (fun b _ e => by rw [e]; rfl)
      clear h1 h2 p1
      have HF3 : Hid (Own ((wr.setCell ⟨g, k, none⟩ (.int .i64 (f' q))).setCell ⟨g, q, none⟩ (.int .i64 (f' k))) base 3 1 (.slice (some ⟨g, 0, none⟩) n c) n (fun i => .int .i64 (if i = q then f' k else if i = k then f' q else f' i))) := HP2.out.congr (fun i _ => by
        by_cases a : i = q
        · rw [if_pos a, if_pos a]
        · rw [if_neg a, if_neg a]
          by_cases b : i = k
          · rw [if_pos b, if_pos b]
          · rw [if_neg b, if_neg b])
      clear HP2 HC HO
      generalize f' q = yq at *
      generalize f' k = yk at *
      go_wp2
      go_roundw
      case rel => exact ⟨k + 1, by omega, by go_num, _, HF3, HC2⟩
      case measure => simp [intOf]; omega
    · obtain rfl : k = hf := by omega
      go_wp2
      go_end0
      exact ⟨rfl, f', HO.out, HC.out⟩
end Go.Proofs.Ytknfddakpfkcfaa
