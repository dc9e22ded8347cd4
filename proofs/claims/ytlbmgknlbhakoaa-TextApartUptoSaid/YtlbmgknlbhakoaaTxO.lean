import Derived.Test.YtlbmgknlbhakoaaVOpen
import Derived.Test.YtlbmgknlbhakoaaTxE
namespace Go.Proofs.Ytlbmgknlbhakoaa
open Go.ChangeShapes Go.WideShapes Go.ChangeAt Go.RowKit Go.Deep
/-! Lists of strings and of numbers that came in. -/
theorem nStr : Try.prog.cellsOf 9 = 1 := by kernel_rfl
theorem open_strs {H : Type} {enc : TypeId × Value → H} {W : World} {base : Nat} {sp : Nat → Bool} {held : Bool} {r : Reach} {b0 : Nat} {v : Value} {x : DataW H} {ps : List MemPlace}
    (hval : Value.okWide Try.prog W r b0 26 v) (h : DataW.Trod enc Try.prog W base sp held 26 v x ps) :
    ∃ (ao : Option Addr) (cap : Nat) (sb : List ByteArray), v = .slice ao sb.length cap ∧ RdA W ao 1 sb.length cap (fun i => .string (sb.getD i ByteArray.empty)) ∧ (∀ i, i < sb.length → (sb.getD i ByteArray.empty).size ≤ 9223372036854775807) := by
  obtain ⟨a2, l2, c2, rfl⟩ := okWide_slice Try.underlying26 hval
  obtain ⟨fuel, h1⟩ := h
  have h1 : DataW.trod enc Try.prog W base sp held fuel 26 [.slice a2 l2 c2] = some (x, ps) := h1
  rcases open_slice Try.underlying26 h1 with ⟨hcs, hx⟩ | ⟨a, len, cap, m, n, D, Pl, hcs, _, hl, hm, hmm, hx, hcell⟩
  · simp at hcs
    obtain ⟨rfl, rfl, rfl⟩ := hcs
    exact ⟨none, 0, [], rfl, ⟨Nat.le_refl _, Nat.zero_le _, fun h => absurd h (by simp)⟩, fun i hi => absurd hi (by simp)⟩
  · simp at hcs
    obtain ⟨rfl, rfl, rfl⟩ := hcs
    have hlm : l2 ≤ m := by rw [hmm]; split <;> omega
    have key : ∀ i, ∃ y : ByteArray, i < m → W.cell? (a.add i) = some (.string y) ∧ y.size ≤ 9223372036854775807 := by
      intro i
      by_cases hi : i < m
      · obtain ⟨cs', h1, h2⟩ := hcell i hi
        rw [nStr, Nat.mul_one] at h1
        obtain ⟨_, hlen, hc⟩ := World.cells?_some h1
        obtain ⟨s, e, _, hs⟩ := DataW.trod_string Try.underlying9 h2
        subst e
        have e0 := hc 0 (by simp)
        rw [add_add] at e0
        simp at e0
        exact ⟨s, fun _ => ⟨e0, by unfold maxLen at hs; omega⟩⟩
      · exact ⟨ByteArray.empty, fun h => absurd h hi⟩
    obtain ⟨f, hf⟩ := Classical.axiomOfChoice key
    have hln : ((List.range l2).map f).length = l2 := by simp
    have hg : ∀ i, i < l2 → ((List.range l2).map f).getD i ByteArray.empty = f i := fun i hi => by simp [List.getD_eq_getElem?_getD, hi]
    refine ⟨some a, c2, (List.range l2).map f, by rw [hln], ?_, fun i hi => ?_⟩
    · rw [hln]
      refine ⟨hl, hm, fun h0 => ?_⟩
      obtain ⟨b, off, rfl⟩ := plain_addr (show W.cell? (a.add 0) = _ from (hf 0 (by omega)).1)
      refine ⟨b, off, rfl, fun j hj => ?_⟩
      have := (hf j (by omega)).1
      rw [add_lit] at this
      rw [this, hg j (by omega)]
    · rw [hln] at hi
      rw [hg i hi]
      exact (hf i (by omega)).2
theorem open_intl {H : Type} {enc : TypeId × Value → H} {W : World} {base : Nat} {sp : Nat → Bool} {held : Bool} {r : Reach} {b0 : Nat} {v0 : Value} {d0 : DataW H} {ps0 : List MemPlace}
    (hval0 : Value.okWide Try.prog W r b0 27 v0) (h0 : DataW.Trod enc Try.prog W base sp held 27 v0 d0 ps0) :
    ∃ (ao : Option Addr) (n cap : Nat) (f : Nat → Int), v0 = .slice ao n cap ∧ RdA W ao 1 n cap (fun i => .int .i64 (f i)) ∧ (∀ i, i < n → (-9223372036854775808 ≤ f i ∧ f i ≤ 9223372036854775807)) := by
  obtain ⟨a2, l2, c2, rfl⟩ := okWide_slice Try.underlying27 hval0
  obtain ⟨fuel, h1⟩ := h0
  have h1 : DataW.trod enc Try.prog W base sp held fuel 27 [.slice a2 l2 c2] = some (d0, ps0) := h1
  obtain ⟨ao, n, cap, f, e, hr, hw, hs⟩ := open_row Try.underlying27 Try.underlying3 nI h1
  exact ⟨ao, n, cap, f, e, hr, fun i hi => wf_i64 (hw i hi)⟩
theorem open_bytl {H : Type} {enc : TypeId × Value → H} {W : World} {base : Nat} {sp : Nat → Bool} {held : Bool} {r : Reach} {b0 : Nat} {v0 : Value} {d0 : DataW H} {ps0 : List MemPlace}
    (hval0 : Value.okWide Try.prog W r b0 22 v0) (h0 : DataW.Trod enc Try.prog W base sp held 22 v0 d0 ps0) :
    ∃ (ao : Option Addr) (n cap : Nat) (f : Nat → Int), v0 = .slice ao n cap ∧ RdA W ao 1 n cap (fun i => .int .u8 (f i)) ∧ (∀ i, i < n → (0 ≤ f i ∧ f i ≤ 255)) := by
  obtain ⟨a2, l2, c2, rfl⟩ := okWide_slice Try.underlying22 hval0
  obtain ⟨fuel, h1⟩ := h0
  have h1 : DataW.trod enc Try.prog W base sp held fuel 22 [.slice a2 l2 c2] = some (d0, ps0) := h1
  obtain ⟨ao, n, cap, f, e, hr, hw, hs⟩ := open_row Try.underlying22 Try.underlying5 nB h1
  exact ⟨ao, n, cap, f, e, hr, fun i hi => wf_u8 (hw i hi)⟩
theorem open_ints2 {H : Type} {enc : TypeId × Value → H} {W : World} {base : Nat} {sp : Nat → Bool} {held : Bool} {r : Reach} {b0 : Nat} {v0 : Value} {d0 : DataW H} {ps0 : List MemPlace}
    (hval0 : Value.okWide Try.prog W r b0 27 v0) (h0 : DataW.Trod enc Try.prog W base sp held 27 v0 d0 ps0) :
    ∃ (ao : Option Addr) (n cap : Nat) (f : Nat → Int), v0 = .slice ao n cap ∧ RdA W ao 1 n cap (fun i => .int .i64 (f i)) ∧ (∀ i, i < n → (-9223372036854775808 ≤ f i ∧ f i ≤ 9223372036854775807)) ∧ ((d0 = .nil ∧ n = 0) ∨ ∃ el rest, d0 = .slice el rest ∧ el.length = n) := by
  obtain ⟨a2, l2, c2, rfl⟩ := okWide_slice Try.underlying27 hval0
  obtain ⟨fuel, h1⟩ := h0
  have h1 : DataW.trod enc Try.prog W base sp held fuel 27 [.slice a2 l2 c2] = some (d0, ps0) := h1
  obtain ⟨ao, n, cap, f, e, hr, hw, hs⟩ := open_row Try.underlying27 Try.underlying3 nI h1
  exact ⟨ao, n, cap, f, e, hr, fun i hi => wf_i64 (hw i hi), hs⟩
theorem list_sized {H : Type} {d0 : DataW H} {ts : List TypeId} {ds : List (DataW H)} {j n : Nat} (hsz : (DataW.weightsEach Try.prog ts ds).all (· ≤ reachBytes) = true) (ht : ts[j]? = some 27) (hd : ds[j]? = some d0) (hs : (d0 = .nil ∧ n = 0) ∨ ∃ el rest, d0 = .slice el rest ∧ el.length = n) : n * 8 ≤ 140737488351232 := by
  rcases hs with ⟨_, rfl⟩ | ⟨el, rest, e2, rfl⟩
  · omega
  · subst e2
    have hlen := sized_slice hsz ht hd Try.underlying27
    rw [yI] at hlen
    simp only [reachBytes] at hlen
    omega
end Go.Proofs.Ytlbmgknlbhakoaa
