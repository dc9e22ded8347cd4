import Derived.Test.YtdceahebkohbjabScI
import Derived.Test.YtdceahebkohbjabHeld
import Derived.Deep.RegionLaw
namespace Go.Proofs.Ytdceahebkohbjab
open Go.RowKit
/-! look. -/
theorem infoSl : (Try.prog.info? 45).map (fun i => (i.zero, i.size, i.bytes)) = some (some (.agg #[.int .i64 0, .int .i64 0, .int .i64 0]), 3, 24) := by kernel_rfl
/-- One element of three cells more, at a step of a region that draws its order. -/
theorem step_app3 {P : Program} (w : World) {ops : Array Oper} {o : Oper} {a : Act} {K : Act → World → Prop} {Q : Exit → Act → World → Prop} {E : Prop} (hgd : o.guard = none) (s x : Operand) (t : TypeId)
    (ho : o.op = .call { callee := .builtin .append, args := #[s, x], argTypes := #[t, t] })
    (base : Nat) (e : TypeId) (z : Value) (bytes : Nat) (ht : P.underlying t = some (.slice e)) (hinfo : (P.info? e).map (fun i => (i.zero, i.size, i.bytes)) = some (some z, 3, bytes)) (h6 : z.cells.size = 3)
    (v : Value) (n : Nat) (cs : Nat → Value) (hs : a.eval s = v) (hown : Own w base e 3 v n cs)
    (g c : Nat) (hx : a.eval x = .slice (some ⟨g, 0, none⟩) 1 c) (hc : ∀ j, j < 1 * 3 → w.cell? ⟨g, j, none⟩ = some (cs (n * 3 + j))) (h1c : ∀ j, (cs j).oneCell' = true)
    (b1 : n < 9223372036854775807) (b2 : (n + 1) * bytes ≤ 140737488355328) (hb : base ≤ w.heap.size)
    (h : ∀ g' cap w', Own w' base e 3 (.slice (some ⟨g', 0, none⟩) (n + 1) cap) (n + 1) cs → App w w' v (.slice (some ⟨g', 0, none⟩) (n + 1) cap) → K (a.put o.dst (.slice (some ⟨g', 0, none⟩) (n + 1) cap)) w') :
    if Region.wanted o (yielded ops a.tmps) = true then Oper.wp P o a w K Q else E := by
  obtain ⟨i, hi, hz0, hz1, hz2⟩ := info_parts hinfo
  refine step_append_lies w hgd s x t ho base e i z 3 bytes ht hi hz0 hz1 hz2 h6 (by decide) v n _ hs hown ⟨g, 0, none⟩ 1 c [cs (n * 3), cs (n * 3 + 1), cs (n * 3 + 2)] hx rfl ?_ (by intro u hu; simp at hu; rcases hu with rfl | rfl | rfl <;> exact h1c _) (by decide) (by unfold maxLen; omega) b2 hb w.heap.size rfl ?_
  · intro j u hj
    match j, hj with
    | 0, hj => simp at hj; subst hj; rw [add_lit0]; exact hc 0 (by decide)
    | 1, hj => simp at hj; subst hj; rw [add_lit0]; exact hc 1 (by decide)
    | 2, hj => simp at hj; subst hj; rw [add_lit0]; exact hc 2 (by decide)
  · intro g' cap w' h2 h3 h4 h5
    refine h g' cap w' ?_ ⟨h3, fun k hk => ?_⟩
    · unfold Own
      have e1 := news_len n 1 3 cs
      rw [← e1]
      exact h2
    · simp only [Value.ownBlock, Option.some.injEq] at hk
      subst hk
      rcases h4 with h4 | h4
      · exact .inl h4
      · exact .inr (by omega)
theorem DkA.setLeft {w : World} {b : Nat} {c : Me} {sv : Value} {out : Nat → Bool} {left given : Int} {vO vZ : Value} (h : DkA w b c sv out left given vO vZ) (x : Int) : DkA (w.setCell ⟨b, 22, none⟩ (.int .i64 x)) b c sv out x given vO vZ := by
  refine (h.set 22 _).congr (fun j hj => ?_)
  unfold dkF
  by_cases e : j = 22
  · subst e; rfl
  · rw [if_neg e]
    by_cases e1 : j < 22
    · simp only [e1, if_true]
    · have : j = 23 ∨ j = 24 ∨ j = 25 := by omega
      rcases this with rfl | rfl | rfl <;> rfl
theorem DkA.setGiven {w : World} {b : Nat} {c : Me} {sv : Value} {out : Nat → Bool} {left given : Int} {vO vZ : Value} (h : DkA w b c sv out left given vO vZ) (x : Int) : DkA (w.setCell ⟨b, 23, none⟩ (.int .i64 x)) b c sv out left x vO vZ := by
  refine (h.set 23 _).congr (fun j hj => ?_)
  unfold dkF
  by_cases e : j = 23
  · subst e; rfl
  · rw [if_neg e]
    by_cases e1 : j < 22
    · simp only [e1, if_true]
    · have : j = 22 ∨ j = 24 ∨ j = 25 := by omega
      rcases this with rfl | rfl | rfl <;> rfl
theorem DkA.setZ {w : World} {b : Nat} {c : Me} {sv : Value} {out : Nat → Bool} {left given : Int} {vO vZ : Value} (h : DkA w b c sv out left given vO vZ) (v : Value) : DkA (w.setCell ⟨b, 25, none⟩ v) b c sv out left given vO v := by
  refine (h.set 25 _).congr (fun j hj => ?_)
  unfold dkF
  by_cases e : j = 25
  · subst e; rfl
  · rw [if_neg e]
    by_cases e1 : j < 22
    · simp only [e1, if_true]
    · have : j = 22 ∨ j = 23 ∨ j = 24 := by omega
      rcases this with rfl | rfl | rfl <;> rfl
theorem slF_app (L : Nat → Se) (Z Y : List (Nat × Int)) {j : Nat} (h : j < Z.length * 3) : slF L (Z ++ Y) j = slF L Z j := by
  unfold slF
  rw [getD_left _ _ (by omega)]
theorem slF_new (L : Nat → Se) (Z : List (Nat × Int)) (z : Nat × Int) : slF L (Z ++ [z]) (Z.length * 3 + 0) = .int .i64 (slc L z).1 ∧ slF L (Z ++ [z]) (Z.length * 3 + 1) = .int .i64 (slc L z).2.1 ∧ slF L (Z ++ [z]) (Z.length * 3 + 2) = .int .i64 (slc L z).2.2 := by
  have e : (Z ++ [z]).getD Z.length (0, 0) = z := by simp
  refine ⟨?_, ?_, ?_⟩
  · unfold slF
    rw [if_pos (by omega), show (Z.length * 3 + 0) / 3 = Z.length by omega, e]
  · unfold slF
    rw [if_neg (by omega), if_pos (by omega), show (Z.length * 3 + 1) / 3 = Z.length by omega, e]
  · unfold slF
    rw [if_neg (by omega), if_neg (by omega), show (Z.length * 3 + 2) / 3 = Z.length by omega, e]
theorem slF_one (L : Nat → Se) (Z : List (Nat × Int)) (j : Nat) : (slF L Z j).oneCell' = true := by
  unfold slF
  split
  · rfl
  · split <;> rfl
/-- a store into the desk -/
theorem Dsk.put {W : World} {c : Me} {u : Option Addr} {n cp : Nat} {L : Nat → Se} {b : Nat} {w : World} {st st' : Pn} (h : Dsk W c u n cp L b w st) {j : Nat} {x : Value} (hO : st'.O = st.O) (hZ : st'.Z = st.Z)
    (hD : ∀ vO vZ, DkA w b c (.slice u n cp) st.out st.left st.given vO vZ → DkA (w.setCell ⟨b, j, none⟩ x) b c (.slice u n cp) st'.out st'.left st'.given vO vZ) : Dsk W c u n cp L b (w.setCell ⟨b, j, none⟩ x) st' := by
  obtain ⟨vO, vZ, h1, h2, h3⟩ := h.ex
  refine ⟨h.low.same (Chg.of_set w b j x), vO, vZ, hD _ _ h1, ?_, ?_⟩
  · rw [hO]
    exact h2.chg (Chg.of_set w b j x) (fun k hk e => h2.apart h1 (by decide) (by rw [hk, e]))
  · rw [hZ]
    exact h3.chg (Chg.of_set w b j x) (fun k hk e => h3.apart h1 (by decide) (by rw [hk, e]))
end Go.Proofs.Ytdceahebkohbjab
